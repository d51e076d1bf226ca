/- Merged texts: Ha Sf Sg Sh Si Sj Sk Sl Ta Ua. -/
import Derived.Test.YtgbbcfngncofgaaProg
import Derived.Test.YtgbbcfngncofgaaFreePlaysA
import Derived.Orders
import Derived.Maps.AppendAt
import Derived.StillTailTactics
import Derived.ProofKit
import Derived.OpenShut
import Derived.Lib.SmallJoins
import Derived.Deep.Slices

/- A rule for a region that draws its order and writes: the operations that only read may come at any time, those that write stand in a chain. -/
namespace Go.Proofs.Ytgbbcfngncofgaa
set_option linter.unusedSimpArgs false
set_option linter.unusedVariables false
open Go.RowKit

section
variable {P : Program} {md : Region.Mode} {ops : Array Oper} {Q : Exit → Act → World → Prop}

theorem getD_both {l : Array Bool} {i : Nat} (hi : i < l.size) (h : l.getD i true = true) : l.getD i false = true := by
  simp [hi] at h ⊢; exact h

/-- Each operation waits for earlier ones alone: then, where none may come up, all are done. -/
theorem ready_none {listed : Array Bool} (hord : ∀ (i : Nat) (o : Oper), ops[i]? = some o → ∀ e ∈ o.after, e.on < i) (hsz : listed.size = ops.size) (h : Region.ready md ops listed = []) : ∀ i, i < ops.size → listed.getD i false = true := by
  intro i
  induction i using Nat.strongRecOn with
  | ind i ih =>
    intro hi
    refine getD_both (by omega) ?_
    cases hl : listed.getD i true with
    | true => rfl
    | false =>
      exfalso
      have hm : i ∈ Region.ready md ops listed := mem_ready.2 ⟨hl, ops[i], Array.getElem?_eq_getElem hi, fun e he _ => by
        have h1 := hord i _ (Array.getElem?_eq_getElem hi) e he
        exact ih e.on h1 (by omega)⟩
      rw [h] at hm
      cases hm

theorem count_less {listed : Array Bool} {i : Nat} (h : listed.getD i true = false) : (listed.setIfInBounds i true).toList.count false + 1 = listed.toList.count false := by
  have hi : i < listed.size := by
    rcases Nat.lt_or_ge i listed.size with h1 | h1
    · exact h1
    · simp [Array.getElem?_eq_none h1] at h
  have hv : listed[i] = false := by simpa [hi] using h
  have hpos : 0 < listed.toList.count false := List.count_pos_iff.2 (by rw [← hv]; simp)
  rw [Array.toList_setIfInBounds, List.count_set (by simpa using hi)]
  rw [if_pos (by simp [hv]), if_neg (by decide)]
  omega

theorem wpAny_inv (I : Array Bool → Act → World → Prop) (hsz : ∀ listed a w, I listed a w → listed.size = ops.size)
    (hstep : ∀ listed a w i, I listed a w → i ∈ Region.ready md ops listed → wpOp P ops Q i (I (listed.setIfInBounds i true)) a w)
    (hdone : ∀ listed a w, I listed a w → Region.ready md ops listed = [] → Q .normal a w) :
    ∀ (fuel : Nat) (listed : Array Bool) (a : Act) (w : World), listed.toList.count false ≤ fuel → I listed a w → wpAny P md ops Q fuel listed a w
  | 0, listed, a, w, hc, hI => by
    have hr : Region.ready md ops listed = [] := by
      cases hr : Region.ready md ops listed with
      | nil => rfl
      | cons x xs =>
        have hm : x ∈ Region.ready md ops listed := by rw [hr]; simp
        have := count_less (mem_ready.1 hm).1
        omega
    exact ⟨hr, hdone _ _ _ hI hr⟩
  | fuel + 1, listed, a, w, hc, hI =>
    ⟨hdone _ _ _ hI, fun i hi => wpOp_mono (fun a' w' h => wpAny_inv I hsz hstep hdone fuel _ a' w' (by have := count_less (mem_ready.1 hi).1; omega) h) (hstep _ _ _ _ hI hi)⟩

theorem wp_region_inv {id : Nat} {a : Act} {w : World} (hm : P.follows .mixedOrders = true) (I : Array Bool → Act → World → Prop) (hsz : ∀ listed a w, I listed a w → listed.size = ops.size)
    (h0 : I (Array.replicate ops.size false) a w.drew)
    (hstep : ∀ listed a w i, I listed a w → i ∈ Region.ready .any ops listed → wpOp P ops Q i (I (listed.setIfInBounds i true)) a w)
    (hdone : ∀ listed a w, I listed a w → Region.ready .any ops listed = [] → Q .normal a w) : (Code.region id ops true).wp P Q a w :=
  wp_region_any hm (wpAny_inv I hsz hstep hdone _ _ _ _ (by simp) h0)

/-- One operation, wanted, by its own step. -/
theorem wpOp_of {i : Nat} {o : Oper} {K : Act → World → Prop} {a : Act} {w : World} (ho : ops[i]? = some o) (hg : o.guard = none) (h : o.wp P a w K Q) : wpOp P ops Q i K a w := by
  unfold wpOp
  simp only [ho]
  rw [if_pos (by simp [Region.wanted, hg])]
  exact .inl h
end

/-- A frame that is another one but for some slots. -/
structure Agr (ds : List Nat) (a0 a : Act) : Prop where
  size : a.tmps.size = a0.tmps.size
  defers : a.defers = a0.defers
  same : ∀ k, k ∉ ds → a.tmps[k]? = a0.tmps[k]?

theorem Agr.refl (ds : List Nat) (a : Act) : Agr ds a a := ⟨rfl, rfl, fun _ _ => rfl⟩

theorem Agr.put {ds : List Nat} {a0 a : Act} (h : Agr ds a0 a) {d : Option Nat} (hd : ∀ x, d = some x → x ∈ ds) (v : Value) : Agr ds a0 (a.put d v) := by
  cases d with
  | none => exact h
  | some d =>
    refine ⟨by simp [Act.put, h.size], h.defers, fun k hk => ?_⟩
    have hne : d ≠ k := fun e => hk (e ▸ hd d rfl)
    simp only [Act.put, Array.getElem?_setIfInBounds_ne hne]
    exact h.same k hk

theorem Agr.tm {ds : List Nat} {a0 a : Act} (h : Agr ds a0 a) {k : Nat} (hk : k ∉ ds) : a.tmps[k]?.getD undef = a0.tmps[k]?.getD undef := by rw [h.same k hk]

theorem agr_ext {ds : List Nat} {a0 a b : Act} (ha : Agr ds a0 a) (hb : Agr ds a0 b) (h : ∀ d ∈ ds, a.tmps[d]?.getD undef = b.tmps[d]?.getD undef) : a = b := by
  obtain ⟨at', ad⟩ := a
  obtain ⟨bt, bd⟩ := b
  have e2 : ad = bd := (ha.defers).trans hb.defers.symm
  have hsz : at'.size = bt.size := (ha.size).trans hb.size.symm
  have e1 : at' = bt := by
    apply Array.ext'
    apply List.ext_getElem?
    intro k
    simp only [Array.getElem?_toList]
    by_cases hk : k ∈ ds
    · have := h k hk
      simp only at this
      by_cases hl : k < at'.size
      · rw [Array.getElem?_eq_getElem hl, Array.getElem?_eq_getElem (by omega)] at this ⊢
        simpa using this
      · rw [Array.getElem?_eq_none (by omega), Array.getElem?_eq_none (by omega)]
    · exact (ha.same k hk).trans (hb.same k hk).symm
  rw [e1, e2]

/-- The slot of an operation. -/
def dstAt (l : List Oper) (k : Nat) : Option Nat := (l[k]?).bind Oper.dst

/-- What an operation hands back: those of the chain what is told, the others what is known. -/
def valAt (T : List Nat) (val : Nat → Value) (vs : List Value) (k : Nat) : Value := match T.idxOf? k with
  | some j => vs.getD j undef
  | none => val k

def SlotOk (l : List Oper) (T : List Nat) (val : Nat → Value) (vs : List Value) (a : Act) (k : Nat) : Prop := ∀ d, dstAt l k = some d → a.tmps[d]?.getD undef = valAt T val vs k

/-- The frame behind them all. -/
def endAct (l : List Oper) (T : List Nat) (val : Nat → Value) (vs : List Value) (a0 : Act) : Nat → Act
  | 0 => a0
  | k + 1 => (endAct l T val vs a0 k).put (dstAt l k) (valAt T val vs k)

structure Laid (l : List Oper) (T : List Nat) (a0 : Act) : Prop where
  nd : ∀ i j d, dstAt l i = some d → dstAt l j = some d → i = j
  lt : ∀ i d, dstAt l i = some d → d < a0.tmps.size
  gd : ∀ o ∈ l, o.guard = none
  ord : ∀ (i : Nat) (o : Oper), l[i]? = some o → ∀ e ∈ o.after, e.on < i
  tnd : T.Nodup
  tlt : ∀ k ∈ T, k < l.length
  chain : ∀ j k k', T[j]? = some k → T[j + 1]? = some k' → ∃ (o : Oper) (e : Edge), l[k']? = some o ∧ e ∈ o.after ∧ Region.binds .any e = true ∧ e.on = k

theorem tm_put_same {a : Act} {d : Nat} (h : d < a.tmps.size) (v : Value) : (a.put (some d) v).tmps[d]?.getD undef = v := by
  simp [Act.put, h]
theorem tm_put_ne {a : Act} {d k : Nat} (h : d ≠ k) (v : Value) : (a.put (some d) v).tmps[k]?.getD undef = a.tmps[k]?.getD undef := by
  simp only [Act.put, Array.getElem?_setIfInBounds_ne h]

theorem size_put' (a : Act) (d : Option Nat) (v : Value) : (a.put d v).tmps.size = a.tmps.size := by cases d <;> simp [Act.put]

def dsOf (l : List Oper) : List Nat := l.filterMap Oper.dst

theorem mem_dsOf {l : List Oper} {d : Nat} : d ∈ dsOf l ↔ ∃ k, dstAt l k = some d := by
  unfold dsOf dstAt
  rw [List.mem_filterMap]
  constructor
  · rintro ⟨o, ho, hd⟩
    obtain ⟨k, hk⟩ := List.getElem?_of_mem ho
    exact ⟨k, by rw [hk]; exact hd⟩
  · rintro ⟨k, hk⟩
    cases ho : l[k]? with
    | none => rw [ho] at hk; cases hk
    | some o => rw [ho] at hk; exact ⟨o, List.mem_of_getElem? ho, hk⟩

theorem endAct_ok {l : List Oper} {T : List Nat} {val : Nat → Value} {vs : List Value} {a0 : Act} (hL : Laid l T a0) : ∀ n, Agr (dsOf l) a0 (endAct l T val vs a0 n) ∧ (endAct l T val vs a0 n).tmps.size = a0.tmps.size ∧ ∀ k, k < n → SlotOk l T val vs (endAct l T val vs a0 n) k
  | 0 => ⟨Agr.refl _ _, rfl, fun k h => by omega⟩
  | n + 1 => by
    obtain ⟨h1, h2, h3⟩ := endAct_ok hL n
    refine ⟨h1.put (fun x hx => mem_dsOf.2 ⟨n, hx⟩) _, by rw [endAct, size_put']; exact h2, fun k hk d hd => ?_⟩
    rw [endAct]
    by_cases e : k = n
    · subst e
      rw [hd]
      exact tm_put_same (by rw [h2]; exact hL.lt k d hd) _
    · cases hn : dstAt l n with
      | none => exact h3 k (by omega) d hd
      | some d' =>
        have hne : d' ≠ d := fun ee => e (hL.nd k n d hd (ee ▸ hn))
        rw [tm_put_ne hne]
        exact h3 k (by omega) d hd

theorem valAt_snoc {T : List Nat} {val : Nat → Value} {vs : List Value} {v : Value} {k : Nat} (h : ∀ j, T.idxOf? k = some j → j < vs.length) : valAt T val (vs ++ [v]) k = valAt T val vs k := by
  unfold valAt
  cases hj : T.idxOf? k with
  | none => rfl
  | some j =>
    have := h j hj
    simp only [List.getD_eq_getElem?_getD, List.getElem?_append_left this]

theorem idx_get {T : List Nat} {j k : Nat} (h : T.idxOf? k = some j) : T[j]? = some k := by
  rw [List.idxOf?, List.findIdx?_eq_some_iff_getElem] at h
  obtain ⟨hl, he, _⟩ := h
  rw [List.getElem?_eq_getElem hl]
  simpa using he

theorem idx_of {T : List Nat} (hn : T.Nodup) {j k : Nat} (h : T[j]? = some k) : T.idxOf? k = some j := by
  cases hx : T.idxOf? k with
  | none =>
    rw [List.idxOf?, List.findIdx?_eq_none_iff] at hx
    have := hx k (List.mem_of_getElem? h)
    simp at this
  | some j' =>
    have h' := idx_get hx
    have hl := (List.getElem?_eq_some_iff.1 h).1
    have hl' := (List.getElem?_eq_some_iff.1 h').1
    have := (List.getElem?_inj hl hn).1 (h.trans h'.symm)
    rw [this]

theorem wp_region_hoist {P : Program} {Q : Exit → Act → World → Prop} {id : Nat} {w : World} {a0 : Act} (l : List Oper) (T : List Nat) (val : Nat → Value) (G : List Value → World → Prop) (hm : P.follows .mixedOrders = true) (hL : Laid l T a0)
    (hG : G [] w.drew)
    (hS : ∀ (i : Nat) (o : Oper), l[i]? = some o → i ∉ T → ∀ (vs : List Value) (a : Act) (w : World) (K : Act → World → Prop), G vs w → (∀ (j k : Nat) (o' : Oper), T[j]? = some k → l[k]? = some o' → (∃ e ∈ o'.after, Region.binds .any e = true ∧ e.on = i) → vs.length ≤ j) → Agr (dsOf l) a0 a → (∀ e ∈ o.after, Region.binds .any e = true → SlotOk l T val vs a e.on) → K (a.put o.dst (val i)) w → o.wp P a w K Q)
    (hT : ∀ (j i : Nat) (o : Oper), T[j]? = some i → l[i]? = some o → ∀ (vs : List Value) (a : Act) (w : World) (K : Act → World → Prop), vs.length = j → G vs w → Agr (dsOf l) a0 a → (∀ e ∈ o.after, Region.binds .any e = true → SlotOk l T val vs a e.on) → (∀ v w', G (vs ++ [v]) w' → K (a.put o.dst v) w') → o.wp P a w K Q)
    (hD : ∀ vs w', vs.length = T.length → G vs w' → Q .normal (endAct l T val vs a0 l.length) w') : (Code.region id l.toArray true).wp P Q a0 w := by
  refine wp_region_inv hm (fun listed a w => listed.size = l.length ∧ ∃ vs : List Value, vs.length ≤ T.length ∧ (∀ j k, T[j]? = some k → (listed.getD k false = true ↔ j < vs.length)) ∧ Agr (dsOf l) a0 a ∧ (∀ k, k < l.length → listed.getD k false = true → SlotOk l T val vs a k) ∧ (∀ (k : Nat) (o : Oper), l[k]? = some o → listed.getD k false = true → ∀ e ∈ o.after, Region.binds .any e = true → listed.getD e.on false = true) ∧ G vs w) (fun _ _ _ h => by simpa using h.1) ?_ ?_ ?_
  · have hrep : ∀ k, (Array.replicate l.toArray.size false).getD k false = false := by intro k; simp only [Array.getD_eq_getD_getElem?, Array.getElem?_replicate]; split <;> rfl
    refine ⟨by simp, [], by simp, fun j k _ => ?_, Agr.refl _ _, fun k _ h => ?_, fun k o _ h => ?_, hG⟩
    · rw [hrep]; simp
    · rw [hrep] at h; cases h
    · rw [hrep] at h; cases h
  · rintro listed a w i ⟨hsz, vs, hvl, hTl, hag, hsl, hcl, hg⟩ hi
    obtain ⟨hnl, o, ho, hdep⟩ := mem_ready.1 hi
    have ho' : l[i]? = some o := by simpa using ho
    have hil : i < l.length := (List.getElem?_eq_some_iff.1 ho').1
    have hgd := hL.gd o (List.mem_of_getElem? ho')
    have hdst : dstAt l i = o.dst := by unfold dstAt; rw [ho']; rfl
    have hdeps : ∀ e ∈ o.after, Region.binds .any e = true → SlotOk l T val vs a e.on := fun e he hb => hsl e.on (by have := hL.ord i o ho' e he; omega) (hdep e he hb)
    have hnf : listed.getD i false = false := by
      cases h : listed.getD i false with
      | false => rfl
      | true =>
        exfalso
        have hlt : i < listed.size := by omega
        simp [hlt] at h hnl
        rw [h] at hnl; cases hnl
    have hset : ∀ k, (listed.setIfInBounds i true).getD k false = if k = i then true else listed.getD k false := by
      intro k
      by_cases e : k = i
      · subst e; have : k < listed.size := by omega
        simp [this]
      · rw [if_neg e]
        simp only [Array.getD_eq_getD_getElem?, Array.getElem?_setIfInBounds_ne (fun h => e h.symm)]
    have hcl' : ∀ (k : Nat) (o : Oper), l[k]? = some o → (listed.setIfInBounds i true).getD k false = true → ∀ e ∈ o.after, Region.binds .any e = true → (listed.setIfInBounds i true).getD e.on false = true := by
      intro k o2 hk hkl e he hb
      rw [hset] at hkl ⊢
      by_cases e2 : e.on = i
      · rw [if_pos e2]
      · rw [if_neg e2]
        by_cases e1 : k = i
        · subst e1
          rw [ho'] at hk; injection hk with hk; subst hk
          exact hdep e he hb
        · rw [if_neg e1] at hkl
          exact hcl k o2 hk hkl e he hb
    have haput : ∀ v, Agr (dsOf l) a0 (a.put o.dst v) := fun v => hag.put (fun x hx => mem_dsOf.2 ⟨i, by rw [hdst]; exact hx⟩) v
    refine wpOp_of ho hgd ?_
    by_cases hiT : i ∈ T
    · obtain ⟨j, hj⟩ := List.getElem?_of_mem hiT
      have hjl : j = vs.length := by
        have h1 : ¬ j < vs.length := fun h => by have := (hTl j i hj).2 h; rw [hnf] at this; cases this
        cases j with
        | zero => omega
        | succ j =>
          have hjl := (List.getElem?_eq_some_iff.1 hj).1
          obtain ⟨k, hk⟩ : ∃ k, T[j]? = some k := ⟨T[j], List.getElem?_eq_getElem (by omega)⟩
          obtain ⟨o2, e, ho2, he, hb, hek⟩ := hL.chain j k i hk hj
          rw [ho'] at ho2; injection ho2 with ho2; subst ho2
          have h2 := (hTl j k hk).1 (by rw [← hek]; exact hdep e he hb)
          omega
      refine hT j i o hj ho' vs a w _ hjl.symm hg hag hdeps fun v w' hg' => ?_
      have hjT := (List.getElem?_eq_some_iff.1 hj).1
      refine ⟨by simp [hsz], vs ++ [v], by simp; omega, fun j' k hk => ?_, haput v, fun k hk hkl d hd => ?_, hcl', hg'⟩
      · rw [hset k]
        by_cases e : k = i
        · subst e
          rw [if_pos rfl]
          have : j' = j := by
            have h1 := idx_of hL.tnd hk
            have h2 := idx_of hL.tnd hj
            rw [h1] at h2; injection h2
          simp; omega
        · rw [if_neg e, hTl j' k hk]
          have : j' ≠ j := fun ee => by subst ee; rw [hj] at hk; injection hk with hk; exact e hk.symm
          simp; omega
      · rw [hset k] at hkl
        by_cases e : k = i
        · subst e
          have hdd : o.dst = some d := by rw [← hdst]; exact hd
          rw [hdd, tm_put_same (by rw [hag.size]; exact hL.lt k d hd)]
          unfold valAt
          rw [idx_of hL.tnd hj]
          simp [hjl]
        · rw [if_neg e] at hkl
          have h1 := hsl k hk hkl d hd
          rw [valAt_snoc (fun j' hj' => (hTl j' k (idx_get hj')).1 hkl)]
          cases hn : o.dst with
          | none => exact h1
          | some d' =>
            have hne : d' ≠ d := fun ee => e (hL.nd k i d hd (by rw [hdst, hn, ee]))
            rw [tm_put_ne hne]
            exact h1
    · have hlate : ∀ (j k : Nat) (o' : Oper), T[j]? = some k → l[k]? = some o' → (∃ e ∈ o'.after, Region.binds .any e = true ∧ e.on = i) → vs.length ≤ j := by
        rintro j k o2 hj hk ⟨e, he, hb, hei⟩
        refine Classical.byContradiction fun hc => ?_
        have hkl := (hTl j k hj).2 (by omega)
        have := hcl k o2 hk hkl e he hb
        rw [hei, hnf] at this
        cases this
      refine hS i o ho' hiT vs a w _ hg hlate hag hdeps ?_
      refine ⟨by simp [hsz], vs, hvl, fun j' k hk => ?_, haput _, fun k hk hkl d hd => ?_, hcl', hg⟩
      · have hne : ¬ k = i := fun e => hiT (e ▸ List.mem_of_getElem? hk)
        rw [hset k, if_neg hne]
        exact hTl j' k hk
      · rw [hset k] at hkl
        by_cases e : k = i
        · subst e
          have hdd : o.dst = some d := by rw [← hdst]; exact hd
          rw [hdd, tm_put_same (by rw [hag.size]; exact hL.lt k d hd)]
          unfold valAt
          cases hx : T.idxOf? k with
          | none => rfl
          | some j => exact absurd (List.mem_of_getElem? (idx_get hx)) hiT
        · rw [if_neg e] at hkl
          have h1 := hsl k hk hkl d hd
          cases hn : o.dst with
          | none => exact h1
          | some d' =>
            have hne : d' ≠ d := fun ee => e (hL.nd k i d hd (by rw [hdst, hn, ee]))
            rw [tm_put_ne hne]
            exact h1
  · rintro listed a w ⟨hsz, vs, hvl, hTl, hag, hsl, hcl, hg⟩ hr
    have hall := ready_none (ops := l.toArray) (md := .any) (fun i o ho => hL.ord i o (by simpa using ho)) (by simpa using hsz) hr
    have hvT : vs.length = T.length := by
      refine Nat.le_antisymm hvl ?_
      refine Classical.byContradiction fun hc => ?_
      obtain ⟨k, hk⟩ : ∃ k, T[vs.length]? = some k := ⟨T[vs.length], List.getElem?_eq_getElem (by omega)⟩
      have := (hTl _ k hk).1 (hall k (by have := hL.tlt k (List.mem_of_getElem? hk); simpa using this))
      omega
    obtain ⟨e1, e2, e3⟩ := endAct_ok (val := val) (vs := vs) hL l.length
    have hae : a = endAct l T val vs a0 l.length := by
      refine agr_ext hag e1 fun d hd => ?_
      obtain ⟨k, hk⟩ := mem_dsOf.1 hd
      have hkl : k < l.length := by
        unfold dstAt at hk
        cases ho : l[k]? with
        | none => rw [ho] at hk; cases hk
        | some o => exact (List.getElem?_eq_some_iff.1 ho).1
      rw [hsl k hkl (hall k (by simpa using hkl)) d hk, e3 k hkl d hk]
    rw [hae]
    exact hD vs w hvT hg

/-- All that the rule asks of the operations, by a test. -/
def laidB (l : List Oper) (T : List Nat) (n : Nat) : Bool :=
  ((List.range l.length).all fun i => (List.range l.length).all fun j => i == j || (dstAt l i).isNone || dstAt l i != dstAt l j) &&
  ((List.range l.length).all fun i => match dstAt l i with | none => true | some d => decide (d < n)) &&
  (l.all fun o => o.guard.isNone) &&
  ((List.range l.length).all fun i => match l[i]? with | none => true | some o => o.after.toList.all fun e => decide (e.on < i)) &&
  decide T.Nodup && (T.all fun k => decide (k < l.length)) &&
  ((List.range (T.length - 1)).all fun j => match l[T.getD (j + 1) 0]? with | none => false | some o => o.after.toList.any fun e => Region.binds .any e && e.on == T.getD j 0)

theorem dstAt_lt {l : List Oper} {k d : Nat} (h : dstAt l k = some d) : k < l.length := by
  unfold dstAt at h
  cases ho : l[k]? with
  | none => rw [ho] at h; cases h
  | some o => exact (List.getElem?_eq_some_iff.1 ho).1

theorem laid_of {l : List Oper} {T : List Nat} {a0 : Act} (h : laidB l T a0.tmps.size = true) : Laid l T a0 := by
  unfold laidB at h
  simp only [Bool.and_eq_true] at h
  obtain ⟨⟨⟨⟨⟨⟨h1, h2⟩, h3⟩, h4⟩, h5⟩, h6⟩, h7⟩ := h
  refine ⟨fun i j d hi hj => ?_, fun i d hi => ?_, fun o ho => ?_, fun i o ho e he => ?_, by simpa using h5, fun k hk => ?_, fun j k k' hk hk' => ?_⟩
  · have := List.all_eq_true.1 (List.all_eq_true.1 h1 i (List.mem_range.2 (dstAt_lt hi))) j (List.mem_range.2 (dstAt_lt hj))
    rw [hi, hj] at this
    simpa using this
  · have := List.all_eq_true.1 h2 i (List.mem_range.2 (dstAt_lt hi))
    rw [hi] at this
    simpa using this
  · have := List.all_eq_true.1 h3 o ho
    simpa using this
  · have := List.all_eq_true.1 h4 i (List.mem_range.2 (List.getElem?_eq_some_iff.1 ho).1)
    rw [ho] at this
    have := List.all_eq_true.1 this e (by simpa using he)
    simpa using this
  · have := List.all_eq_true.1 h6 k hk
    simpa using this
  · have hl := (List.getElem?_eq_some_iff.1 hk').1
    have := List.all_eq_true.1 h7 j (List.mem_range.2 (by omega))
    simp only [List.getD_eq_getElem?_getD, hk, hk', Option.getD_some] at this
    cases ho : l[k']? with
    | none => rw [ho] at this; cases this
    | some o =>
      rw [ho] at this
      obtain ⟨e, he, hb⟩ := List.any_eq_true.1 this
      simp only [Bool.and_eq_true, beq_iff_eq] at hb
      exact ⟨o, e, rfl, by simpa using he, hb.1, hb.2⟩

/-- A call. -/
theorem op_call {P : Program} {o : Oper} {a : Act} {w : World} {K : Act → World → Prop} {Q : Exit → Act → World → Prop} (f : FuncId) (args : Array Value)
    (hex : (execOp a.eval o).run P w = .ok (.enter f args) w) (hc : Calls P f args w fun e w' => ∃ v, e = .returned v ∧ K (a.put o.dst v) w') : Oper.wp P o a w K Q := by
  unfold Oper.wp
  rw [hex, Oper.upon_enter]
  refine hc.mono ?_
  rintro e w' ⟨v, rfl, hr⟩
  exact hr

/-- An append to a row of the call's own. -/
theorem op_append {P : Program} {o : Oper} {a : Act} {w : World} {K : Act → World → Prop} {Q : Exit → Act → World → Prop} (s x : Operand) (t : TypeId)
    (ho : o.op = .call { callee := .builtin .append, args := #[s, x], argTypes := #[t, t] })
    (base : Nat) (e : TypeId) (i : TypeInfo) (z : Value) (size bytes : Nat) (ht : P.underlying t = some (.slice e)) (hi : P.info? e = some i) (hz : i.zero = some z)
    (hsize : i.size = size) (hby : i.bytes = bytes) (hzs : z.cells.size = size) (hsz : 0 < size)
    (v : Value) (n : Nat) (xs : List Value) (hs : a.eval s = v) (hown : w.ownsRow base e size v n xs)
    (ad : Addr) (m c : Nat) (news : List Value) (hx : a.eval x = .slice (some ad) m c) (hl : news.length = m * size) (hnews : ∀ j u, news[j]? = some u → w.cell? (ad.add j) = some u) (h1 : ∀ u ∈ news, u.oneCell' = true)
    (h63 : n + m ≤ maxLen) (hbytes : (n + m) * bytes ≤ 140737488355328) (hbase : base ≤ w.heap.size)
    (h : ∀ v' w', w'.ownsRow base e size v' (n + m) (xs ++ news) → w.grownBy w' v.ownBlock → (v'.ownBlock = v.ownBlock ∨ v'.ownBlock = some w.heap.size) → K (a.put o.dst v') w') :
    Oper.wp P o a w K Q := by
  obtain ⟨v', w', hr, h2, h3, _, h5⟩ := run_append_own_at (P := P) w base t o.type e i z size bytes ht hi hz hsize hby hzs hsz v n xs hown ad m c news hl hnews h1 h63 hbytes hbase
  unfold Oper.wp execOp
  simp only [ho, resolve, invoke, builtin, Sem.run_bind, Sem.run_pure, Result.andThen_ok, List.map_toArray, List.map_cons, List.map_nil, hs, hx, hr]
  exact h v' w' h2 h3 h5

end Go.Proofs.Ytgbbcfngncofgaa

/- Walks: free. -/
namespace Go.Proofs.Ytgbbcfngncofgaa
set_option linter.unusedSimpArgs false
set_option linter.unusedVariables false
open Go.RowKit

theorem Try.mixed : Try.prog.follows .mixedOrders = true := by kernel_rfl

theorem index74_0 (x y : Int) (w : World) : Sem.run Try.prog (Instr.index 74 (.agg #[.int .i64 x, .int .i64 y]) (.int .i64 0)) w = Result.ok (.int .i64 x) w := by
  simp [Instr.index, asIntOf, part, go_sem, run_underlying Try.underlying74, Try.isAgg3, Try.sizeOf3]
theorem index74_1 (x y : Int) (w : World) : Sem.run Try.prog (Instr.index 74 (.agg #[.int .i64 x, .int .i64 y]) (.int .i64 1)) w = Result.ok (.int .i64 y) w := by
  simp [Instr.index, asIntOf, part, go_sem, run_underlying Try.underlying74, Try.isAgg3, Try.sizeOf3]
attribute [local go_sem] index74_0 index74_1

theorem int_eq {a b : Int} (h : a = b) : Value.int .i64 a = .int .i64 b := by rw [h]
theorem box_two {W : World} {b : Nat} {x y : Value} (h : W.heap[b]? = some (.cells #[x, y] 36)) (u v : Value) : ((W.setCell ⟨b, 0, none⟩ u).setCell ⟨b, 1, none⟩ v).heap[b]? = some (.cells #[u, v] 36) := by
  have h1 := heap_setCell_same W b 0 _ 36 u h
  rw [heap_setCell_same _ b 1 _ 36 v h1]
  rfl

theorem join_le {a b : Nat × Nat} (h : besideB a b = true) (ha : a.1 + a.2 ≤ 256) (hb : b.1 + b.2 ≤ 256) : (joinB a b).1 + (joinB a b).2 ≤ 256 := by
  simp [besideB] at h
  simp only [joinB]
  rcases h with h | h <;> omega

/-- How far the two joins are. -/
def FK (l : List (Nat × Nat)) (b : Nat × Nat) (q k : Nat) (c : Nat × Nat) (f t : Nat) : Prop :=
  (k = 0 ∧ c = b ∧ f = q ∧ t = q) ∨ (k = 1 ∧ (c, f) = leftJ l b q ∧ t = q) ∨ (k = 2 ∧ (c, t) = rightJ l (leftJ l b q).1 q ∧ f = (leftJ l b q).2)

theorem FK.left_skip {l : List (Nat × Nat)} {b c : Nat × Nat} {q f t : Nat} (h : FK l b q 0 c f t) (hs : q = 0 ∨ ∃ x, l[q - 1]? = some x ∧ besideB x c = false) : FK l b q 1 c f t := by
  rcases h with ⟨_, rfl, rfl, rfl⟩ | ⟨h, _⟩ | ⟨h, _⟩
  · refine .inr (.inl ⟨rfl, ?_, rfl⟩)
    unfold leftJ
    rw [if_neg]
    rintro ⟨h0, hb⟩
    rcases hs with h | ⟨x, hx, hx'⟩
    · omega
    · simp [List.getD_eq_getElem?_getD, hx, hx'] at hb
  · cases h
  · cases h
theorem FK.left_join {l : List (Nat × Nat)} {b c x : Nat × Nat} {q f t : Nat} (h : FK l b q 0 c f t) (hq : 0 < q) (hx : l[q - 1]? = some x) (hb : besideB x c = true) : FK l b q 1 (joinB x c) (q - 1) t ∧ f = q ∧ t = q := by
  rcases h with ⟨_, rfl, rfl, rfl⟩ | ⟨h, _⟩ | ⟨h, _⟩
  · refine ⟨.inr (.inl ⟨rfl, ?_, rfl⟩), rfl, rfl⟩
    unfold leftJ
    rw [if_pos ⟨hq, by simp [List.getD_eq_getElem?_getD, hx, hb]⟩]
    simp [List.getD_eq_getElem?_getD, hx]
  · cases h
  · cases h
theorem FK.right_skip {l : List (Nat × Nat)} {b c : Nat × Nat} {q f t : Nat} (h : FK l b q 1 c f t) (hs : q = l.length ∨ ∃ x, l[q]? = some x ∧ besideB x c = false) : FK l b q 2 c f t := by
  rcases h with ⟨h, _⟩ | ⟨_, h, rfl⟩ | ⟨h, _⟩
  · cases h
  · refine .inr (.inr ⟨rfl, ?_, by rw [← h]⟩)
    rw [← h]
    unfold rightJ
    rw [if_neg]
    rintro ⟨h0, hb⟩
    rcases hs with h | ⟨x, hx, hx'⟩
    · omega
    · simp [List.getD_eq_getElem?_getD, hx, hx'] at hb
  · cases h
theorem FK.right_join {l : List (Nat × Nat)} {b c x : Nat × Nat} {q f t : Nat} (h : FK l b q 1 c f t) (hx : l[q]? = some x) (hb : besideB x c = true) : FK l b q 2 (joinB x c) f (q + 1) ∧ f ≤ q ∧ t = q := by
  rcases h with ⟨h, _⟩ | ⟨_, h, rfl⟩ | ⟨h, _⟩
  · cases h
  · have hq := (List.getElem?_eq_some_iff.1 hx).1
    refine ⟨.inr (.inr ⟨rfl, ?_, by rw [← h]⟩), ?_, rfl⟩
    · rw [← h]
      unfold rightJ
      rw [if_pos ⟨hq, by simp [List.getD_eq_getElem?_getD, hx, hb]⟩]
      simp [List.getD_eq_getElem?_getD, hx]
    · have : f = (leftJ l b t).2 := by rw [← h]
      rw [this]
      unfold leftJ
      split <;> simp only <;> omega
  · cases h
theorem FK.done {l : List (Nat × Nat)} {b c : Nat × Nat} {q f t : Nat} (h : FK l b q 2 c f t) (hq : q ≤ l.length) : f ≤ t ∧ t ≤ l.length ∧ freeQ l b q = l.take f ++ c :: l.drop t := by
  rcases h with ⟨h, _⟩ | ⟨h, _⟩ | ⟨_, h, h'⟩
  · cases h
  · cases h
  · have h1 : c = (rightJ l (leftJ l b q).1 q).1 := by rw [← h]
    have h2 : t = (rightJ l (leftJ l b q).1 q).2 := by rw [← h]
    have h3 : (leftJ l b q).2 ≤ q := by unfold leftJ; split <;> simp only <;> omega
    have h4 : q ≤ (rightJ l (leftJ l b q).1 q).2 := by unfold rightJ; split <;> simp only <;> omega
    have h5 : (rightJ l (leftJ l b q).1 q).2 ≤ l.length := by unfold rightJ; split <;> simp only <;> omega
    refine ⟨by omega, by omega, ?_⟩
    unfold freeQ
    rw [← h1, ← h2, ← h']

set_option maxRecDepth 100000 in
set_option maxHeartbeats 4000000 in
theorem free_c (S N sb mb g cap mm : Nat) (b : Nat × Nat) (M : DataW Unit) (l : List (Nat × Nat)) (E : Nat) (w : World) (hS : Sp w N sb mb g cap S l mm M E) (hl : l.length ≤ 256) (ha : Apart S l) (hS2 : S ≤ 256) (hb : b.1 + b.2 ≤ 256) :
    Calls Try.prog 35 #[.pointer (some ⟨sb, 0, none⟩), .agg #[.int .i64 (b.1 : Nat), .int .i64 (b.2 : Nat)]] w fun e w' => TurnRes N sb mb S (freeB l b) mm M E w e w' := by
  have hNw : N ≤ w.heap.size := by have := hS.lo; have := hS.lt; omega
  have hlt := hS.lt
  have hlg := hS.lg.2
  obtain ⟨W1, hW1⟩ : ∃ W1, (w.alloc (.cells #[.pointer (some ⟨sb, 0, none⟩)] 44)).alloc (.cells #[.int .i64 (b.1 : Nat), .int .i64 (b.2 : Nat)] 36) = W1 := ⟨_, rfl⟩
  have hb1 : Below w.heap.size w W1 := by rw [← hW1]; exact ((Below.refl _ _).alloc (Nat.le_refl _) _).alloc (by simp) _
  have hs1 : W1.heap.size = w.heap.size + 2 := by rw [← hW1]; simp
  have p0 : W1.heap[w.heap.size]? = some (.cells #[.pointer (some ⟨sb, 0, none⟩)] 44) := by
    rw [← hW1, Below.heap_alloc _ _ _ (by simp)]; exact heap_alloc_new _ _
  have p1 : W1.heap[w.heap.size + 1]? = some (.cells #[.int .i64 (b.1 : Nat), .int .i64 (b.2 : Nat)] 36) := by
    rw [← hW1]
    have := heap_alloc_new (w.alloc (.cells #[.pointer (some ⟨sb, 0, none⟩)] 44)) (.cells #[.int .i64 (b.1 : Nat), .int .i64 (b.2 : Nat)] 36)
    rwa [World.size_alloc] at this
  have hSW := hS.below hb1
  have q0 : W1.cell? ⟨w.heap.size, 0, none⟩ = some (.pointer (some ⟨sb, 0, none⟩)) := cell_of_box p0
  have q1 := hSW.c1
  have hlw : w.heap.size < W1.heap.size := by omega
  have hlsb := hSW.lt
  have Hc := hide (search_c w.heap.size (w.heap.size + 1) sb g cap l b S W1 q0 q1 (fun i x hx => (hSW.cell hx).1) (by rw [cell_of_row W1 _ 0 _ 36 (0, 0) p1]; rfl) hl ha)
  have Hs1 := hide hs1
  have Hp0 := hide p0
  have Hp1 := hide p1
  have HSW := hide hSW
  have hq := (place_split ha b).1
  have Hfb : Hid (freeB l b = freeQ l b (placeB l b)) := rfl
  clear hs1 p0 p1 hSW
  generalize placeB l b = q at *
  go_enter Try.func35, Try.ntmps35
  go_wp2_with fail
  refine (unhide Hc).mono ?_
  rintro e w2 ⟨rfl, hb2⟩
  clear Hc hW1
  have hs2 := hb2.size
  have hb12 : Below w.heap.size w w2 := hb1.trans (hb2.mono (by omega))
  have hpw : w.heap.size < w2.heap.size := by omega
  have hpw1 : w.heap.size + 1 < w2.heap.size := by have := unhide Hs1; omega
  have Hpb : Hid (∀ W, Below w2.heap.size w2 W → W.cell? ⟨w.heap.size, 0, none⟩ = some (.pointer (some ⟨sb, 0, none⟩))) := fun W hW => by
    have := cell_of_box (unhide Hp0)
    exact ((hW.cell (p := ⟨w.heap.size, 0, none⟩) hpw).trans (hb2.cell (p := ⟨w.heap.size, 0, none⟩) hlw)).trans this
  have HS2 : Hid (Sp w2 N sb mb g cap S l mm M E) := (unhide HSW).below hb2
  have p2 : w2.heap[w.heap.size + 1]? = some (.cells #[.int .i64 (b.1 : Nat), .int .i64 (b.2 : Nat)] 36) := by rw [hb2.block _ (by have := unhide Hs1; omega)]; exact unhide Hp1
  have p3 : w2.heap[w.heap.size]? = some (.cells #[.pointer (some ⟨sb, 0, none⟩)] 44) := by rw [hb2.block _ (by omega)]; exact unhide Hp0
  have Hp2 := hide p2
  have Hp3 := hide p3
  have hkw : KeepT w w2 := KeepT.below hb12
  clear p2 p3 q0 q1 hlw hlsb hb1 hb2 hs2 Hp0 Hp1 HSW Hs1
  go_wp2
  generalize hW3 : w2.alloc (.cells #[.int .i64 ((q : Int) - 1), .int .i64 (q : Int)] 74) = W3
  have hb3 : Below w2.heap.size w2 W3 := by rw [← hW3]; exact (Below.refl _ _).alloc (Nat.le_refl _) _
  go_loopw [5, 6, 24] (fun f t i wr => ∃ (k fn tn : Nat) (c : Nat × Nat), k ≤ 2 ∧ i = .int .i64 k ∧ f = .int .i64 (fn : Nat) ∧ t = .int .i64 (tn : Nat) ∧ Hid (FK l b q k c fn tn) ∧ c.1 + c.2 ≤ 256 ∧ fn ≤ q ∧ tn ≤ l.length ∧ Hid (Below w.heap.size w wr ∧ wr.heap[w.heap.size]? = some (.cells #[.pointer (some ⟨sb, 0, none⟩)] 44) ∧ wr.heap[w.heap.size + 1]? = some (.cells #[.int .i64 (c.1 : Nat), .int .i64 (c.2 : Nat)] 36))) (fun _ _ i _ => 2 - (intOf i).toNat)
  case atStart => 
    have hb13 : Below w.heap.size w W3 := hb12.trans (hb3.mono (by omega))
    exact ⟨0, q, q, b, by omega, rfl, rfl, rfl, .inl ⟨rfl, rfl, rfl, rfl⟩, hb, Nat.le_refl _, hq, hb13, by rw [hb3.block _ hpw]; exact unhide Hp3, by rw [hb3.block _ hpw1]; exact unhide Hp2⟩
  case round =>
    obtain ⟨k, fn, tn, c, hk, rfl, rfl, rfl, HF, hc, hfn, htn, HW⟩ := hrel
    by_cases hk2 : k < 2
    · obtain ⟨hbr, r0, r1⟩ := unhide HW
      have hszr := hbr.size
      have hSr := hS.below hbr
      have hl0 : w.heap.size < wr.heap.size := (Array.getElem?_eq_some_iff.1 r0).1
      have hl1 : w.heap.size + 1 < wr.heap.size := (Array.getElem?_eq_some_iff.1 r1).1
      have z0 := cell_of_box r0
      have z1 := hSr.c1
      have z2 : wr.cell? ⟨w.heap.size + 1, 0, none⟩ = some (.int .i64 (c.1 : Nat)) := by rw [cell_of_row wr _ 0 _ 36 (0, 0) r1]; rfl
      have z3 : wr.cell? ⟨w.heap.size + 1, 1, none⟩ = some (.int .i64 (c.2 : Nat)) := by rw [cell_of_row wr _ 1 _ 36 (0, 0) r1]; rfl
      have z4 : wr.frozen? ⟨w.heap.size + 1, 0, none⟩ = false := frozen_of_row wr _ 0 _ 36 r1
      have z5 : wr.frozen? ⟨w.heap.size + 1, 1, none⟩ = false := frozen_of_row wr _ 1 _ 36 r1
      have hlsb : sb < wr.heap.size := by omega
      have hlgw : g < wr.heap.size := by omega
      have Hr0 := hide r0
      have Hr1 := hide r1
      have Hbr := hide hbr
      have HWq : Hid (∀ n, Below w.heap.size w (wr.drewN n) ∧ (wr.drewN n).heap[w.heap.size]? = some (.cells #[.pointer (some ⟨sb, 0, none⟩)] 44) ∧ (wr.drewN n).heap[w.heap.size + 1]? = some (.cells #[.int .i64 (c.1 : Nat), .int .i64 (c.2 : Nat)] 36)) := fun n => ⟨below_drewN hbr n, r0, r1⟩
      clear r0 r1 hbr
      obtain rfl | rfl : k = 0 ∨ k = 1 := by omega
      · by_cases hq0 : q = 0
        · have HF2 := hide ((unhide HF).left_skip (.inl hq0))
          have d0 : decide ((q : Int) - 1 < 0) = true := decide_eq_true (by omega)
          clear hq0
          go_wp2
          go_quiet (fail)
          go_wp2
          go_roundw
          case rel => exact ⟨1, fn, tn, c, by omega, by go_num, rfl, rfl, HF2, hc, hfn, htn, unhide HWq nq⟩
          case measure => simp [intOf]
        · -- GEN
          obtain ⟨p, m, hx⟩ : ∃ p m, l[q - 1]? = some (p, m) := ⟨(l[q - 1]'(by omega)).1, (l[q - 1]'(by omega)).2, List.getElem?_eq_getElem (by omega)⟩
          obtain ⟨x0, x1⟩ := hSr.cell hx
          simp only at x0 x1
          have hxm := ha.1 _ (List.mem_of_getElem? hx)
          simp only at hxm
          have d0 : decide (((q : Int) - 1) < 0) = false := decide_eq_false (by omega)
          have d1 : (((q : Int) - 1) == (l.length : Int)) = false := by simp; omega
          have d2 : 0 ≤ ((q : Int) - 1) := by omega
          have d3 : ((q : Int) - 1) < (l.length : Int) := by omega
          have d4 : ((q : Int) - 1).toNat = q - 1 := by omega
          have G0 := cell_regrown z0
          have G1 := cell_regrown z1
          have G2 := cell_regrown z2
          have G3 := cell_regrown z3
          have G4 := cell_regrown x0
          have G5 := cell_regrown x1
          have Hbs : Hid (∀ w', Calls Try.prog 39 #[.agg #[.int .i64 (p : Nat), .int .i64 (m : Nat)], .agg #[.int .i64 (c.1 : Nat), .int .i64 (c.2 : Nat)]] w' fun e w2 => e = .returned (.bool (besideB (p, m) c)) ∧ Below w'.heap.size w' w2) := fun w' => beside_c (p, m) c w' (by simp only; omega) hc
          cases hbs : besideB (p, m) c
          · rw [hbs] at Hbs
            have HF2 := hide ((unhide HF).left_skip (.inr ⟨_, hx, hbs⟩))
            clear hbs hx
            go_wp2
            clear z0 z1 z2 z3 z4 z5 x0 x1
            refine wp_region_quiet_below (by kernel_rfl) (by kernel_rfl) ?_
            repeat (go_big_quiet_step (exact Calls.regrown_of (unhide Hbs _)))
            refine wpQuiet_nil ?_
            intro _ hw'
            obtain ⟨⟨dq, osq⟩, hw''⟩ := hw'
            subst hw''
            have hbq := below_regrown wr dq osq
            clear G0 G1 G2 G3 G4 G5
            generalize Go.Sort.grow (redrawn wr dq) osq = wq at *
            go_wp2
            go_roundw
            case rel => exact ⟨1, fn, tn, c, by omega, by go_num, rfl, rfl, HF2, hc, hfn, htn, (unhide Hbr).trans (hbq.mono hszr), by rw [hbq.block _ hl0]; exact unhide Hr0, by rw [hbq.block _ hl1]; exact unhide Hr1⟩
            case measure => simp [intOf]
          · rw [hbs] at Hbs
            have HF2 := hide ((unhide HF).left_join (by omega) hx hbs)
            have Hjl := hide (join_le hbs (by simp only; omega) hc)
            have Hj : Hid (∀ w', Calls Try.prog 40 #[.agg #[.int .i64 (p : Nat), .int .i64 (m : Nat)], .agg #[.int .i64 (c.1 : Nat), .int .i64 (c.2 : Nat)]] w' fun e w2 => e = .returned (.agg #[.int .i64 (((joinB (p, m) c).1 : Nat) : Int), .int .i64 (((joinB (p, m) c).2 : Nat) : Int)]) ∧ Below w'.heap.size w' w2) := fun w' => join_c (p, m) c w' (by simp only; omega) hc
            clear hbs hx
            go_wp2
            refine wp_region_quiet_below (by kernel_rfl) (by kernel_rfl) ?_
            repeat (go_big_quiet_step (exact Calls.regrown_of (unhide Hbs _)))
            refine wpQuiet_nil ?_
            intro _ hw'
            obtain ⟨⟨dq, osq⟩, hw''⟩ := hw'
            subst hw''
            have hbq := below_regrown wr dq osq
            have y0 := G0 dq osq
            have y1 := G1 dq osq
            have y2 := G2 dq osq
            have y3 := G3 dq osq
            have y4 := G4 dq osq
            have y5 := G5 dq osq
            clear G0 G1 G2 G3 G4 G5 z0 z1 z2 z3 z4 z5 x0 x1
            generalize Go.Sort.grow (redrawn wr dq) osq = wq at *
            have hm0 : w.heap.size < wq.heap.size := by have := hbq.size; omega
            have hm1 : w.heap.size + 1 < wq.heap.size := by have := hbq.size; omega
            have hm2 : sb < wq.heap.size := by omega
            have hm3 : g < wq.heap.size := by omega
            go_wp2
            have d5 : (1 : Int) ≤ (q : Int) := by omega
            have d6 : (q : Int) < (l.length : Int) + 1 := by omega
            have d7 : 1 ≤ q := by omega
            have d8 : q < l.length + 1 := by omega
            go_still_tail 8, Try.mixed
            go_wp2_with (go_at_call 40; go_must (refine (unhide Hj _).mono ?_); go_must (rintro e w9 ⟨he, hb9⟩; subst he; have t0 := (hb9.cell (p := ⟨w.heap.size + 1, 0, none⟩) hm1).trans y2; have t1 := (hb9.cell (p := ⟨w.heap.size + 1, 1, none⟩) hm1).trans y3; have hb9' : Below wq.heap.size wq w9 := ⟨hb9.os, hb9.tape, hb9.output, hb9.size, hb9.block⟩; have t2 : w9.heap[w.heap.size + 1]? = some (.cells #[.int .i64 (c.1 : Nat), .int .i64 (c.2 : Nat)] 36) := (hb9'.block _ hm1).trans ((hbq.block _ hl1).trans (unhide Hr1)); have t3 : w9.heap[w.heap.size]? = some (.cells #[.pointer (some ⟨sb, 0, none⟩)] 44) := (hb9'.block _ hm0).trans ((hbq.block _ hl0).trans (unhide Hr0)); have t4 := frozen_of_row w9 _ 0 _ 36 t2; have t5 := frozen_of_row w9 _ 1 _ 36 t2; have T2 := hide t2; have T3 := hide t3; have hm9 : w.heap.size + 1 < w9.heap.size := (Array.getElem?_eq_some_iff.1 t2).1; clear t2 t3))
            go_roundw
            case rel =>
              obtain ⟨F1, F2, F3⟩ := unhide HF2
              refine ⟨1, q - 1, tn, joinB (p, m) c, by omega, by go_num, int_eq (by omega), int_eq (by omega), F1, unhide Hjl, by omega, by omega, ?_, ?_, ?_⟩
              · exact ((((unhide Hbr).trans (hbq.mono hszr)).trans (hb9'.mono (by have := hbq.size; omega))).setCell (p := ⟨w.heap.size + 1, 0, none⟩) (by show w.heap.size ≤ w.heap.size + 1; omega) _).setCell (p := ⟨w.heap.size + 1, 1, none⟩) (by show w.heap.size ≤ w.heap.size + 1; omega) _
              · rw [Below.heap_setCell _ _ _ _ (by show w.heap.size ≠ w.heap.size + 1; omega), Below.heap_setCell _ _ _ _ (by show w.heap.size ≠ w.heap.size + 1; omega)]; exact unhide T3
              · exact box_two (unhide T2) _ _
            case measure => simp [intOf]
      · by_cases hq0 : q = l.length
        · have HF2 := hide ((unhide HF).right_skip (.inl hq0))
          have d0 : decide ((q : Int) < 0) = false := decide_eq_false (by omega)
          have d1 : ((q : Int) == (l.length : Int)) = true := by simp; omega
          clear hq0
          go_wp2
          go_quiet (fail)
          go_wp2
          go_roundw
          case rel => exact ⟨2, fn, tn, c, by omega, by go_num, rfl, rfl, HF2, hc, hfn, htn, unhide HWq nq⟩
          case measure => simp [intOf]
        · -- GEN
          obtain ⟨p, m, hx⟩ : ∃ p m, l[q]? = some (p, m) := ⟨(l[q]'(by omega)).1, (l[q]'(by omega)).2, List.getElem?_eq_getElem (by omega)⟩
          obtain ⟨x0, x1⟩ := hSr.cell hx
          simp only at x0 x1
          have hxm := ha.1 _ (List.mem_of_getElem? hx)
          simp only at hxm
          have d0 : decide ((q : Int) < 0) = false := decide_eq_false (by omega)
          have d1 : ((q : Int) == (l.length : Int)) = false := by simp; omega
          have d2 : 0 ≤ (q : Int) := by omega
          have d3 : (q : Int) < (l.length : Int) := by omega
          have d4 : (q : Int).toNat = q := by omega
          have G0 := cell_regrown z0
          have G1 := cell_regrown z1
          have G2 := cell_regrown z2
          have G3 := cell_regrown z3
          have G4 := cell_regrown x0
          have G5 := cell_regrown x1
          have Hbs : Hid (∀ w', Calls Try.prog 39 #[.agg #[.int .i64 (p : Nat), .int .i64 (m : Nat)], .agg #[.int .i64 (c.1 : Nat), .int .i64 (c.2 : Nat)]] w' fun e w2 => e = .returned (.bool (besideB (p, m) c)) ∧ Below w'.heap.size w' w2) := fun w' => beside_c (p, m) c w' (by simp only; omega) hc
          cases hbs : besideB (p, m) c
          · rw [hbs] at Hbs
            have HF2 := hide ((unhide HF).right_skip (.inr ⟨_, hx, hbs⟩))
            clear hbs hx
            go_wp2
            clear z0 z1 z2 z3 z4 z5 x0 x1
            refine wp_region_quiet_below (by kernel_rfl) (by kernel_rfl) ?_
            repeat (go_big_quiet_step (exact Calls.regrown_of (unhide Hbs _)))
            refine wpQuiet_nil ?_
            intro _ hw'
            obtain ⟨⟨dq, osq⟩, hw''⟩ := hw'
            subst hw''
            have hbq := below_regrown wr dq osq
            clear G0 G1 G2 G3 G4 G5
            generalize Go.Sort.grow (redrawn wr dq) osq = wq at *
            go_wp2
            go_roundw
            case rel => exact ⟨2, fn, tn, c, by omega, by go_num, rfl, rfl, HF2, hc, hfn, htn, (unhide Hbr).trans (hbq.mono hszr), by rw [hbq.block _ hl0]; exact unhide Hr0, by rw [hbq.block _ hl1]; exact unhide Hr1⟩
            case measure => simp [intOf]
          · rw [hbs] at Hbs
            have HF2 := hide ((unhide HF).right_join hx hbs)
            have Hjl := hide (join_le hbs (by simp only; omega) hc)
            have Hj : Hid (∀ w', Calls Try.prog 40 #[.agg #[.int .i64 (p : Nat), .int .i64 (m : Nat)], .agg #[.int .i64 (c.1 : Nat), .int .i64 (c.2 : Nat)]] w' fun e w2 => e = .returned (.agg #[.int .i64 (((joinB (p, m) c).1 : Nat) : Int), .int .i64 (((joinB (p, m) c).2 : Nat) : Int)]) ∧ Below w'.heap.size w' w2) := fun w' => join_c (p, m) c w' (by simp only; omega) hc
            clear hbs hx
            go_wp2
            refine wp_region_quiet_below (by kernel_rfl) (by kernel_rfl) ?_
            repeat (go_big_quiet_step (exact Calls.regrown_of (unhide Hbs _)))
            refine wpQuiet_nil ?_
            intro _ hw'
            obtain ⟨⟨dq, osq⟩, hw''⟩ := hw'
            subst hw''
            have hbq := below_regrown wr dq osq
            have y0 := G0 dq osq
            have y1 := G1 dq osq
            have y2 := G2 dq osq
            have y3 := G3 dq osq
            have y4 := G4 dq osq
            have y5 := G5 dq osq
            clear G0 G1 G2 G3 G4 G5 z0 z1 z2 z3 z4 z5 x0 x1
            generalize Go.Sort.grow (redrawn wr dq) osq = wq at *
            have hm0 : w.heap.size < wq.heap.size := by have := hbq.size; omega
            have hm1 : w.heap.size + 1 < wq.heap.size := by have := hbq.size; omega
            have hm2 : sb < wq.heap.size := by omega
            have hm3 : g < wq.heap.size := by omega
            go_wp2
            have d5 : True := trivial
            have d6 : True := trivial
            have d7 : True := trivial
            have d8 : True := trivial
            go_still_tail 8, Try.mixed
            go_wp2_with (go_at_call 40; go_must (refine (unhide Hj _).mono ?_); go_must (rintro e w9 ⟨he, hb9⟩; subst he; have t0 := (hb9.cell (p := ⟨w.heap.size + 1, 0, none⟩) hm1).trans y2; have t1 := (hb9.cell (p := ⟨w.heap.size + 1, 1, none⟩) hm1).trans y3; have hb9' : Below wq.heap.size wq w9 := ⟨hb9.os, hb9.tape, hb9.output, hb9.size, hb9.block⟩; have t2 : w9.heap[w.heap.size + 1]? = some (.cells #[.int .i64 (c.1 : Nat), .int .i64 (c.2 : Nat)] 36) := (hb9'.block _ hm1).trans ((hbq.block _ hl1).trans (unhide Hr1)); have t3 : w9.heap[w.heap.size]? = some (.cells #[.pointer (some ⟨sb, 0, none⟩)] 44) := (hb9'.block _ hm0).trans ((hbq.block _ hl0).trans (unhide Hr0)); have t4 := frozen_of_row w9 _ 0 _ 36 t2; have t5 := frozen_of_row w9 _ 1 _ 36 t2; have T2 := hide t2; have T3 := hide t3; have hm9 : w.heap.size + 1 < w9.heap.size := (Array.getElem?_eq_some_iff.1 t2).1; clear t2 t3))
            go_roundw
            case rel =>
              obtain ⟨F1, F2, F3⟩ := unhide HF2
              refine ⟨2, fn, q + 1, joinB (p, m) c, by omega, by go_num, int_eq (by omega), int_eq (by omega), F1, unhide Hjl, by omega, by omega, ?_, ?_, ?_⟩
              · exact ((((unhide Hbr).trans (hbq.mono hszr)).trans (hb9'.mono (by have := hbq.size; omega))).setCell (p := ⟨w.heap.size + 1, 0, none⟩) (by show w.heap.size ≤ w.heap.size + 1; omega) _).setCell (p := ⟨w.heap.size + 1, 1, none⟩) (by show w.heap.size ≤ w.heap.size + 1; omega) _
              · rw [Below.heap_setCell _ _ _ _ (by show w.heap.size ≠ w.heap.size + 1; omega), Below.heap_setCell _ _ _ _ (by show w.heap.size ≠ w.heap.size + 1; omega)]; exact unhide T3
              · exact box_two (unhide T2) _ _
            case measure => simp [intOf]
    · obtain rfl : k = 2 := by omega
      obtain ⟨hbr, r0, r1⟩ := unhide HW
      have hszr := hbr.size
      have hSr := hS.below hbr
      have hl0 : w.heap.size < wr.heap.size := (Array.getElem?_eq_some_iff.1 r0).1
      have hl1 : w.heap.size + 1 < wr.heap.size := (Array.getElem?_eq_some_iff.1 r1).1
      obtain ⟨F1, F2, F3⟩ := (unhide HF).done hq
      have z0 := cell_of_box r0
      have z1 := hSr.c1
      have z2 : wr.cell? ⟨w.heap.size + 1, 0, none⟩ = some (.int .i64 (c.1 : Nat)) := by rw [cell_of_row wr _ 0 _ 36 (0, 0) r1]; rfl
      have z3 : wr.cell? ⟨w.heap.size + 1, 1, none⟩ = some (.int .i64 (c.2 : Nat)) := by rw [cell_of_row wr _ 1 _ 36 (0, 0) r1]; rfl
      have hlsb : sb < wr.heap.size := by omega
      have hlgw : g < wr.heap.size := by omega
      obtain ⟨l', HL⟩ : ∃ l', Hid (l.take fn ++ c :: l.drop tn = l') := ⟨_, rfl⟩
      have Hl' : Hid (freeB l b = l') := ((unhide Hfb).trans F3).trans (unhide HL)
      have HSr := hide hSr
      have hgb : g ≠ w.heap.size := by omega
      go_wp2
      clear r0 r1 hSr F3
      refine wp_region_hoist _ [8, 9, 12] (fun i => match i with
          | 0 => .pointer (some ⟨sb, 0, none⟩)
          | 1 => .pointer (some ⟨sb, 0, none⟩)
          | 2 => .pointer (some ⟨sb, 0, none⟩)
          | 3 => .pointer (some ⟨sb, 1, none⟩)
          | 4 => .slice (some ⟨g, 0, none⟩) l.length cap
          | 5 => .int .i64 (fn : Nat)
          | 6 => .int .i64 (tn : Nat)
          | 7 => .agg #[.int .i64 (c.1 : Nat), .int .i64 (c.2 : Nat)]
          | 10 => .pointer (some ⟨sb, 0, none⟩)
          | _ => .pointer (some ⟨sb, 1, none⟩))
        (fun vs W => match vs with
          | [] => Below wr.heap.size wr W
          | [v8] => (∃ m8, v8 = .slice (some ⟨m8, 0, none⟩) 1 1 ∧ W.heap[m8]? = some (.cells #[.int .i64 (c.1 : Nat), .int .i64 (c.2 : Nat)] 36) ∧ wr.heap.size ≤ m8) ∧ Below wr.heap.size wr W
          | [v8, v9] => (∃ g' cap', v9 = .slice (some ⟨g', 0, none⟩) l'.length cap' ∧ W.ownsRow N 36 2 (.slice (some ⟨g', 0, none⟩) l'.length cap') l'.length (cellsB l')) ∧ wr.grownBy W (some g)
          | [v8, v9, v12] => TurnRes N sb mb S l' mm M E w (.returned (.tuple #[])) W
          | _ => False) Try.mixed (laid_of (by kernel_rfl)) (Below.refl _ _).drew ?_ ?_ ?_
      · intro i oo hio hiT vs a W K hGv hlate hag hdep hK
        have t2 := hag.tm (k := 2) (by simp [dsOf])
        have t3 := hag.tm (k := 3) (by simp [dsOf])
        have t5 := hag.tm (k := 5) (by simp [dsOf])
        have t6 := hag.tm (k := 6) (by simp [dsOf])
        simp at t2 t3 t5 t6
        have hB1 : vs.length ≤ 1 → Below wr.heap.size wr W := by
          intro h4
          match vs, hGv, h4 with
          | [], h, _ => exact h
          | [_], h, _ => exact h.2
        have hP2 : vs.length ≤ 2 → W.cell? ⟨w.heap.size, 0, none⟩ = some (.pointer (some ⟨sb, 0, none⟩)) := by
          intro h4
          match vs, hGv, h4 with
          | [], h, _ => exact (Below.cell h (p := ⟨w.heap.size, 0, none⟩) hl0).trans z0
          | [_], h, _ => exact (h.2.cell (p := ⟨w.heap.size, 0, none⟩) hl0).trans z0
          | [_, _], h, _ => exact h.2.cell z0 (by simpa using fun e => hgb e.symm)
        rcases i with _ | _ | _ | _ | _ | _ | _ | _ | _ | _ | _ | _ | _ | i
        · have h2 : vs.length ≤ 2 := hlate 2 12 _ rfl rfl ⟨⟨0, .phase⟩, by simp, rfl, rfl⟩
          have hcW := hP2 h2
          cases hio
          clear hGv
          unfold Oper.wp
          go_simp
          exact hK
        · have h2 : vs.length ≤ 2 := hlate 2 12 _ rfl rfl ⟨⟨1, .phase⟩, by simp, rfl, rfl⟩
          have hcW := hP2 h2
          cases hio
          clear hGv
          unfold Oper.wp
          go_simp
          exact hK
        · have s68 : a.tmps[68]?.getD undef = .pointer (some ⟨sb, 0, none⟩) := hdep ⟨1, .data⟩ (by cases hio; simp) rfl 68 rfl
          cases hio
          clear hGv
          unfold Oper.wp
          go_simp
          exact hK
        · have s69 : a.tmps[69]?.getD undef = .pointer (some ⟨sb, 0, none⟩) := hdep ⟨2, .data⟩ (by cases hio; simp) rfl 69 rfl
          cases hio
          clear hGv
          unfold Oper.wp
          go_simp
          exact hK
        · have h1 : vs.length ≤ 1 := hlate 1 9 _ rfl rfl ⟨⟨4, .data⟩, by simp, rfl, rfl⟩
          have s70 : a.tmps[70]?.getD undef = .pointer (some ⟨sb, 1, none⟩) := hdep ⟨3, .data⟩ (by cases hio; simp) rfl 70 rfl
          have hcW := ((hB1 h1).cell (p := ⟨sb, 1, none⟩) hlsb).trans z1
          cases hio
          clear hGv
          unfold Oper.wp
          go_simp
          exact hK
        · cases hio
          clear hGv
          unfold Oper.wp
          go_simp
          exact hK
        · cases hio
          clear hGv
          unfold Oper.wp
          go_simp
          exact hK
        · have h1 : vs.length ≤ 0 := hlate 0 8 _ rfl rfl ⟨⟨7, .data⟩, by simp, rfl, rfl⟩
          have c0 := ((hB1 (by omega)).cell (p := ⟨w.heap.size + 1, 0, none⟩) hl1).trans z2
          have c1 := ((hB1 (by omega)).cell (p := ⟨w.heap.size + 1, 1, none⟩) hl1).trans z3
          cases hio
          clear hGv
          unfold Oper.wp
          go_simp
          exact hK
        · exact absurd (by simp) hiT
        · exact absurd (by simp) hiT
        · have s67 : a.tmps[67]?.getD undef = .pointer (some ⟨sb, 0, none⟩) := hdep ⟨0, .data⟩ (by cases hio; simp) rfl 67 rfl
          cases hio
          clear hGv
          unfold Oper.wp
          go_simp
          exact hK
        · have s77 : a.tmps[77]?.getD undef = .pointer (some ⟨sb, 0, none⟩) := hdep ⟨10, .data⟩ (by cases hio; simp) rfl 77 rfl
          cases hio
          clear hGv
          unfold Oper.wp
          go_simp
          exact hK
        · exact absurd (by simp) hiT
        · simp at hio
      · intro j i oo hj hio vs a W K hvl hGv hag hdep hK
        rcases j with _ | _ | _ | j
        · obtain rfl : 8 = i := by simpa using hj
          obtain rfl : vs = [] := List.length_eq_zero_iff.1 hvl
          have s74 : a.tmps[74]?.getD undef = .agg #[.int .i64 (c.1 : Nat), .int .i64 (c.2 : Nat)] := hdep ⟨7, .data⟩ (by cases hio; simp) rfl 74 rfl
          have hBW : Below wr.heap.size wr W := hGv
          have hsW := hBW.size
          cases hio
          clear hGv
          unfold Oper.wp
          go_simp
          refine hK _ _ ⟨⟨W.heap.size, rfl, heap_alloc_new _ _, hsW⟩, hBW.alloc hsW _⟩
        · obtain rfl : 9 = i := by simpa using hj
          obtain ⟨v8, rfl⟩ : ∃ v8, vs = [v8] := by
            match vs, hvl with
            | [v8], _ => exact ⟨v8, rfl⟩
          obtain ⟨⟨m8, rfl, hm8, hge⟩, hBW⟩ := hGv
          have s71 : a.tmps[71]?.getD undef = .slice (some ⟨g, 0, none⟩) l.length cap := hdep ⟨4, .data⟩ (by cases hio; simp) rfl 71 rfl
          have s72 : a.tmps[72]?.getD undef = .int .i64 (fn : Nat) := hdep ⟨5, .data⟩ (by cases hio; simp) rfl 72 rfl
          have s73 : a.tmps[73]?.getD undef = .int .i64 (tn : Nat) := hdep ⟨6, .data⟩ (by cases hio; simp) rfl 73 rfl
          have s75 : a.tmps[75]?.getD undef = .slice (some ⟨m8, 0, none⟩) 1 1 := hdep ⟨8, .data⟩ (by cases hio; simp) rfl 75 rfl
          have hsW := hBW.size
          have hRc := replace_c g cap fn tn m8 N l c.1 c.2 W ((unhide HSr).below hBW).row (by omega) F1 F2 hm8 (by omega) (by omega)
          cases hio
          refine op_call 41 #[.slice (some ⟨g, 0, none⟩) l.length cap, .int .i64 (fn : Nat), .int .i64 (tn : Nat), .slice (some ⟨m8, 0, none⟩) 1 1] (by go_simp) ?_
          refine hRc.mono ?_
          rintro e w' ⟨g', cap', rfl, h2, h3, _⟩
          refine ⟨_, rfl, hK _ _ ⟨⟨g', cap', ?_, ?_⟩, grown_trans (grown_of_below hBW) h3⟩⟩
          · exact congrArg (fun n => Value.slice (some ⟨g', 0, none⟩) n cap') (congrArg List.length (unhide HL))
          · rw [← unhide HL]; exact h2
        · obtain rfl : 12 = i := by simpa using hj
          obtain ⟨v8, v9, rfl⟩ : ∃ v8 v9, vs = [v8, v9] := by
            match vs, hvl with
            | [v8, v9], _ => exact ⟨v8, v9, rfl⟩
          obtain ⟨⟨g', cap', rfl, hr9⟩, hgW⟩ := hGv
          have s76 : a.tmps[76]?.getD undef = .slice (some ⟨g', 0, none⟩) l'.length cap' := hdep ⟨9, .data⟩ (by cases hio; simp) rfl 76 rfl
          have s78 : a.tmps[78]?.getD undef = .pointer (some ⟨sb, 1, none⟩) := hdep ⟨11, .data⟩ (by cases hio; simp) rfl 78 rfl
          obtain ⟨u1, u2, u3, T⟩ := Sp.turn hNw hbr (unhide HSr) hgW hr9
          have HT := hide T
          cases hio
          clear hr9 hgW T
          unfold Oper.wp
          go_simp
          exact hK undef _ (unhide HT)
        · simp at hj
      · intro vs W hvl hGv
        obtain ⟨v8, v9, v12, rfl⟩ : ∃ v8 v9 v12, vs = [v8, v9, v12] := by
          match vs, hvl with
          | [v8, v9, v12], _ => exact ⟨v8, v9, v12, rfl⟩
        have HT := hide hGv
        clear hGv
        simp only [List.length_cons, List.length_nil, Nat.reduceAdd]
        simp [endAct, dstAt, valAt, List.idxOf?, List.findIdx?, List.findIdx?.go, Act.put]
        go_wp2
        refine bodyPost_end (v := .tuple #[]) (results_none rfl _ _ _) rfl ?_
        rw [unhide Hl']
        exact unhide HT

end Go.Proofs.Ytgbbcfngncofgaa

/- Walks: give, take, answer. -/
namespace Go.Proofs.Ytgbbcfngncofgaa
set_option linter.unusedSimpArgs false
set_option linter.unusedVariables false
open Go.RowKit

theorem wf_i64 {n : Int} (h : -9223372036854775808 ≤ n ∧ n ≤ 9223372036854775807) : (Lit.int .i64 n).wf = true := by
  simp [Lit.wf, IntKind.min, IntKind.max, IntKind.signed, IntKind.bits]
  omega

/-- What is taken at a place, as the map tells. -/
theorem TkD.look {M : DataW Unit} {T : Int → Option Nat} (h : TkD M T) {W : World} {mb n : Nat} (hm : W.ownsMap Try.prog 3 (plainElem Try.prog 3) mb n M) {a : Int} (h1 : -9223372036854775808 ≤ a) (h2 : a ≤ 9223372036854775807) :
    ∃ d : Int, (Instr.lookup 51 (.map (some mb)) (.int .i64 a) true).run Try.prog W = .ok (.tuple #[.int .i64 d, .bool (T a).isSome]) W ∧ ∀ c, T a = some c → d = (c : Nat) := by
  obtain ⟨v, ps, e1, e2⟩ := hm.look_ok (Maps.int_keyed Try.underlying3) Try.underlying51 (Try.zeroValue3 _) (plainElem_int Try.underlying3 (by decide)) (Maps.keyOf_int_mk Try.underlying3 (wf_i64 ⟨h1, h2⟩))
  obtain ⟨d, rfl, e3, _⟩ := plainElem_int_inv Try.underlying3 e2
  rw [(h a).1] at e1
  refine ⟨d, e1, fun c hc => ?_⟩
  have h3 := (h a).2 c hc
  have h4 := h3.symm.trans (congrArg Prod.fst e3)
  injection h4 with h4
  injection h4 with _ h4
  exact h4.symm

/-- What an ask leaves. -/
def AnsRes (N sb S : Nat) (s : St) (n : Nat) (w W : World) : Prop := SpA W N sb S s n ∧ Below N w W ∧ KeepT w W

theorem SpA.mono {W : World} {N sb S : Nat} {s : St} {n n' : Nat} (h : SpA W N sb S s n) (hn : n ≤ n') : SpA W N sb S s n' := by
  obtain ⟨mb, g, cap, M, h1, h2⟩ := h
  exact ⟨mb, g, cap, M, ⟨h1.box, h1.row, h1.map.mono hn, h1.lo, h1.lm⟩, h2⟩
theorem SpA.le {W : World} {N sb S : Nat} {s : St} {n : Nat} (h : SpA W N sb S s n) : N ≤ W.heap.size := by
  obtain ⟨mb, g, cap, M, h1, h2⟩ := h
  have := h1.lo
  have := h1.lt
  omega
theorem AnsRes.same {N sb S : Nat} {s : St} {n : Nat} {w W : World} (h : SpA w N sb S s n) (hb : Below w.heap.size w W) : AnsRes N sb S s n w W := ⟨h.below hb, hb.mono h.le, KeepT.below hb⟩

set_option maxRecDepth 100000 in
set_option maxHeartbeats 2000000 in
theorem give_none (a : Int) (S N sb n : Nat) (s : St) (w : World) (hS : SpA w N sb S s n) (h1 : -9223372036854775808 ≤ a) (h2 : a ≤ 9223372036854775807) (ht : s.tk a = none) :
    Calls Try.prog 31 #[.pointer (some ⟨sb, 0, none⟩), .int .i64 a] w fun e w' => e = .returned (.int .i64 2) ∧ AnsRes N sb S s n w w' := by
  have HA := hide (AnsRes.same hS (Below.refl _ _))
  obtain ⟨mb, g, cap, M, hP, hT⟩ := hS
  obtain ⟨d, hlk, _⟩ := hT.look hP.map h1 h2
  rw [ht] at hlk
  simp only [Option.isSome_none] at hlk
  have q2 := hP.c2
  have hlt := hP.lt
  clear hT hP
  go_enter Try.func31, Try.ntmps31
  go_wp2
  go_ret
  exact ⟨rfl, unhide HA⟩

set_option maxRecDepth 100000 in
set_option maxHeartbeats 2000000 in
theorem give_some (p m S N sb n : Nat) (s : St) (w : World) (hS : SpA w N sb S s n) (hO : Ok S s) (hS2 : S ≤ 256) (ht : s.tk (p : Int) = some m) :
    Calls Try.prog 31 #[.pointer (some ⟨sb, 0, none⟩), .int .i64 (p : Nat)] w fun e w' => e = .returned (.int .i64 0) ∧ AnsRes N sb S ⟨freeB s.bl (p, m), updT s.tk (p : Int) none, s.en⟩ n w w' := by
  have hle := hS.le
  obtain ⟨mb, g, cap, M, hP, hT⟩ := hS
  have hb := hO.tk _ _ ht
  obtain ⟨d, hlk, hd⟩ := hT.look hP.map (a := (p : Int)) (by omega) (by omega)
  have hd' := hd m ht
  subst hd'
  rw [ht] at hlk
  simp only [Option.isSome_some] at hlk
  have q2 := hP.c2
  have hlt := hP.lt
  have hmp := hP.map
  have HP := hide hP
  have HT := hide (hT.del (p : Int))
  have Hkey := hide (Maps.keyOf_int_mk Try.underlying3 (wf_i64 (n := (p : Int)) ⟨by omega, by omega⟩))
  have hll := ok_len hO
  have HO := hide hO.ap
  clear hT hP hd ht hO
  go_enter Try.func31, Try.ntmps31
  go_wp2_with (first
    | (at_delete; go_must (refine wpList_delete_own _ rfl _ _ 51 3 rfl 3 (Maps.int_keyed Try.underlying3) Try.underlying51 _ mb n M rfl hmp _ _ rfl (unhide Hkey) ?_); go_must (intro w1 hown1 hturn1; have hg1 := hturn1.grown; have hP1 := (unhide HP).setM hg1 hown1; have HP1 := hide hP1; have hs1 := hg1.size; have Hf := hide (free_c S N sb mb g cap n (p, m) (M.del (.int .i64 (p : Int))) s.bl s.en w1 hP1 (by omega) (unhide HO) hS2 (by simp only; omega)); clear hP1 hown1))
    | (go_at_call 35; go_must (refine (unhide Hf).mono ?_); go_must (rintro e w5 ⟨he, hT5, hb5, hk5⟩; subst he)))
  go_ret
  refine ⟨rfl, ?_, ?_, ?_⟩
  · obtain ⟨g', cap', hT5⟩ := hT5
    exact ⟨mb, g', cap', _, hT5, unhide HT⟩
  · exact ((Below.refl N w).grown hg1 hle (fun k e => by injection e with e; rw [← e]; exact (unhide HP).lm)).trans hb5
  · exact (KeepT.grown hg1 (.inr (.inr (unhide HP).mapAt))).trans hk5

end Go.Proofs.Ytgbbcfngncofgaa

/- Walks: take, answer. -/
namespace Go.Proofs.Ytgbbcfngncofgaa
set_option linter.unusedSimpArgs false
set_option linter.unusedVariables false
open Go.RowKit

set_option maxRecDepth 100000 in
set_option maxHeartbeats 2000000 in
theorem take_range (a : Int) (S N sb n : Nat) (fv : Value) (s : St) (w : World) (hS : SpA w N sb S s n) (ha : a < 1 ∨ (S : Int) < a) :
    Calls Try.prog 30 #[.pointer (some ⟨sb, 0, none⟩), .int .i64 a, fv] w fun e w' => e = .returned (.tuple #[.int .i64 0, .int .i64 3]) ∧ AnsRes N sb S s n w w' := by
  have HA := hide (AnsRes.same hS (Below.refl _ _))
  obtain ⟨mb, g, cap, M, hP, hT⟩ := hS
  have q0 := hP.c0
  have hlt := hP.lt
  clear hT hP
  by_cases h : a < 1
  · have d0 : decide (a < 1) = true := decide_eq_true h
    go_enter Try.func30, Try.ntmps30
    go_wp2
    go_ret2
    exact ⟨rfl, unhide HA⟩
  · have h2 : (S : Int) < a := by omega
    have d0 : decide (a < 1) = false := decide_eq_false h
    have d1 : decide ((S : Int) < a) = true := decide_eq_true h2
    go_enter Try.func30, Try.ntmps30
    go_wp2
    go_ret2
    exact ⟨rfl, unhide HA⟩

set_option maxRecDepth 100000 in
set_option maxHeartbeats 2000000 in
theorem take_full (pol : Int) (h1 : 1 ≤ pol) (h4 : pol ≤ 4) (k S N sb n pb : Nat) (s : St) (w : World) (hS : SpA w N sb S s n) (hO : Ok S s) (hS2 : S ≤ 256) (hk1 : 1 ≤ k) (hk : k ≤ S) (hpb : w.heap[pb]? = some (.cells #[.pointer (some ⟨sb, 0, none⟩)] 44)) (hf : findK (pref pol s.en) k s.bl s.bl.length = none) :
    Calls Try.prog 30 #[.pointer (some ⟨sb, 0, none⟩), .int .i64 (k : Nat), fvOf pol pb] w fun e w' => e = .returned (.tuple #[.int .i64 0, .int .i64 6]) ∧ AnsRes N sb S s n w w' := by
  have HA : Hid (∀ w', Below w.heap.size w w' → AnsRes N sb S s n w w') := fun w' hb => AnsRes.same hS hb
  have hll := ok_len hO
  obtain ⟨mb, g, cap, M, hP, hT⟩ := hS
  have Hc := hide (find_c pol h1 h4 S k N sb mb g cap n pb M s.bl s.en w hP (by omega) (cell_of_box hpb))
  rw [hf] at Hc
  have Hc' : Hid (Calls Try.prog 33 #[.pointer (some ⟨sb, 0, none⟩), .int .i64 (k : Nat), fvOf pol pb] w fun e w' => e = .returned (.tuple #[.int .i64 0, .bool false]) ∧ Below w.heap.size w w') := unhide Hc
  have q0 := hP.c0
  have hlt := hP.lt
  clear hT hP Hc hf hpb hO
  generalize fvOf pol pb = fv at *
  have d0 : decide (k < 1) = false := decide_eq_false (by omega)
  have d1 : decide (S < k) = false := decide_eq_false (by omega)
  go_enter Try.func30, Try.ntmps30
  go_wp2_with (go_at_call 33; go_must (refine (unhide Hc').mono ?_); go_must (rintro e w5 ⟨he, hb5⟩; subst he))
  go_ret2
  exact ⟨rfl, unhide HA _ hb5⟩

set_option maxRecDepth 100000 in
set_option maxHeartbeats 2000000 in
theorem take_some (pol : Int) (h1 : 1 ≤ pol) (h4 : pol ≤ 4) (k S N sb n pb i p m : Nat) (s : St) (w : World) (hS : SpA w N sb S s n) (hO : Ok S s) (hS2 : S ≤ 256) (hk1 : 1 ≤ k) (hk : k ≤ S) (hn : n ≤ 1000) (hpb : w.heap[pb]? = some (.cells #[.pointer (some ⟨sb, 0, none⟩)] 44)) (hf : findK (pref pol s.en) k s.bl s.bl.length = some i) (hx : s.bl[i]? = some (p, m)) (hkm : k ≤ m) :
    Calls Try.prog 30 #[.pointer (some ⟨sb, 0, none⟩), .int .i64 (k : Nat), fvOf pol pb] w fun e w' => e = .returned (.tuple #[.int .i64 (p : Nat), .int .i64 0]) ∧ AnsRes N sb S ⟨cutB s.bl i k, updT s.tk (p : Int) (some k), p + k⟩ (n + 1) w w' := by
  have hle := hS.le
  have hll := ok_len hO
  have hb := hO.ap.1 _ (List.mem_of_getElem? hx)
  simp only at hb
  have hil := (List.getElem?_eq_some_iff.1 hx).1
  obtain ⟨mb, g, cap, M, hP, hT⟩ := hS
  have Hc := hide (find_c pol h1 h4 S k N sb mb g cap n pb M s.bl s.en w hP (by omega) (cell_of_box hpb))
  rw [hf] at Hc
  have Hc' : Hid (Calls Try.prog 33 #[.pointer (some ⟨sb, 0, none⟩), .int .i64 (k : Nat), fvOf pol pb] w fun e w' => e = .returned (.tuple #[.int .i64 (i : Nat), .bool true]) ∧ Below w.heap.size w w') := unhide Hc
  have q0 := hP.c0
  have hlt := hP.lt
  have HP := hide hP
  have HT := hide (hT.put hP.map.isMap (p : Int) k)
  have Hkey := hide (Maps.keyOf_int_mk Try.underlying3 (wf_i64 (n := (p : Int)) ⟨by omega, by omega⟩))
  have Hval := hide (show plainElem (H := Unit) Try.prog 3 (.int .i64 (k : Int)) = some (.lit (.int .i64 (k : Int)), []) from plainElem_int Try.underlying3 (wf_i64 ⟨by omega, by omega⟩))
  have Hcut : Hid (∀ w5, Below w.heap.size w w5 → Calls Try.prog 34 #[.pointer (some ⟨sb, 0, none⟩), .int .i64 (i : Nat), .int .i64 (k : Nat)] w5 fun e w' => TurnRes N sb mb S (cutB s.bl i k) n M s.en w5 e w') := fun w5 hb5 => cut_c S k i N sb mb g cap n p m M s.bl s.en w5 (hP.below hb5) (by omega) hx hkm (by omega)
  have Hcell : Hid (∀ w5, Below w.heap.size w w5 → w5.cell? ⟨sb, 1, none⟩ = some (.slice (some ⟨g, 0, none⟩) s.bl.length cap) ∧ w5.cell? ⟨g, i * 2, none⟩ = some (.int .i64 (p : Nat)) ∧ sb < w5.heap.size ∧ g < w5.heap.size) := fun w5 hb5 => ⟨(hP.below hb5).c1, ((hP.below hb5).cell hx).1, (hP.below hb5).lt, (hP.below hb5).lg.2⟩
  have hiI : (i : Int) < (s.bl.length : Int) := by omega
  clear hT hP Hc hf hpb hO hx
  generalize fvOf pol pb = fv at *
  have d0 : decide (k < 1) = false := decide_eq_false (by omega)
  have d1 : decide (S < k) = false := decide_eq_false (by omega)
  have w1 : IntKind.i64.wrap ((p : Int) + (k : Int)) = (p : Int) + (k : Int) := by rw [IntKind.wrap_i64]; omega
  go_enter Try.func30, Try.ntmps30
  go_wp2_with (first
    | (go_at_call 33; go_must (refine (unhide Hc').mono ?_); go_must (rintro e w5 ⟨he, hb5⟩; subst he; obtain ⟨k1, k2, k3, k4⟩ := unhide Hcell _ hb5))
    | (go_at_call 34; go_must (refine (unhide Hcut _ hb5).mono ?_); go_must (rintro e w6 ⟨he, hT6, hb6, hk6⟩; subst he; obtain ⟨g', cap', hP6⟩ := hT6; have r2 := hP6.c2; have hlt6 := hP6.lt; have hmp := hP6.map; have HP6 := hide hP6; have Hb6 := hide hb6; clear hP6))
    | (at_mapUpdate; go_must (refine wpList_mapUpdate_own _ rfl _ _ _ 51 rfl 3 3 (Maps.int_keyed Try.underlying3) Try.underlying51 _ mb n M rfl hmp (by simp only [maxLen]; omega) _ _ _ rfl rfl (unhide Hkey) _ [] (unhide Hval) ?_); go_must (intro w7 hmap7 hg7; have hP7 := (unhide HP6).setM hg7 hmap7; have r3 := hP7.c3; have f3 := hP7.fr 3; have hlt7 := hP7.lt; have HP7 := hide hP7; clear hP7)))
  go_ret2
  have hP8 := (unhide HP7).setE (p + k)
  rw [Int.natCast_add] at hP8
  refine ⟨rfl, ⟨mb, g', cap', _, hP8, unhide HT⟩, ?_, ?_⟩
  · exact ((((hb5.mono hle).trans (unhide Hb6)).grown hg7 (by have := (unhide HP6).lo; omega) (fun q e => by injection e with e; rw [← e]; exact (unhide HP).lm))).setCell (p := ⟨sb, 3, none⟩) (unhide HP).lo _
  · exact (((KeepT.below hb5).trans hk6).trans (KeepT.grown hg7 (.inr (.inr (unhide HP6).mapAt)))).trans (keep_box (unhide HP7).box 3 _)

end Go.Proofs.Ytgbbcfngncofgaa

/- Walks: answer, newSpace, policy. -/
namespace Go.Proofs.Ytgbbcfngncofgaa
set_option linter.unusedSimpArgs false
set_option linter.unusedVariables false
open Go.RowKit

theorem AnsRes.mono {N sb S : Nat} {s : St} {n n' : Nat} {w W : World} (h : AnsRes N sb S s n w W) (hn : n ≤ n') : AnsRes N sb S s n' w W := ⟨h.1.mono hn, h.2⟩

/-- take, by what is done plainly. -/
theorem take_c (pol : Int) (h1 : 1 ≤ pol) (h4 : pol ≤ 4) (a : Int) (S N sb n pb : Nat) (s : St) (w : World) (hS : SpA w N sb S s n) (hO : Ok S s) (hS2 : S ≤ 256) (hn : n ≤ 1000) (hpb : w.heap[pb]? = some (.cells #[.pointer (some ⟨sb, 0, none⟩)] 44)) :
    Calls Try.prog 30 #[.pointer (some ⟨sb, 0, none⟩), .int .i64 a, fvOf pol pb] w fun e w' => e = .returned (.tuple #[.int .i64 (((stepS S pol s (1, a)).2.1 : Nat) : Int), .int .i64 (stepS S pol s (1, a)).1]) ∧ AnsRes N sb S (stepS S pol s (1, a)).2.2 (n + 1) w w' := by
  by_cases hr : a < 1 ∨ (S : Int) < a
  · have e : stepS S pol s (1, a) = (3, 0, s) := by simp [stepS, hr]
    rw [e]
    exact (take_range a S N sb n _ s w hS hr).mono fun _ _ ⟨he, hA⟩ => ⟨he, hA.mono (by omega)⟩
  · obtain ⟨k, rfl⟩ : ∃ k : Nat, a = (k : Int) := ⟨a.toNat, by omega⟩
    have hr' : ¬ ((k : Int) < 1 ∨ (S : Int) < (k : Int)) := hr
    cases hf : findK (pref pol s.en) k s.bl s.bl.length with
    | none =>
      have e : stepS S pol s (1, (k : Int)) = (6, 0, s) := by
        unfold stepS
        rw [if_pos rfl, if_neg hr']
        simp only [Int.toNat_natCast, hf]
      rw [e]
      exact (take_full pol h1 h4 k S N sb n pb s w hS hO hS2 (by omega) (by omega) hpb hf).mono fun _ _ ⟨he, hA⟩ => ⟨he, hA.mono (by omega)⟩
    | some i =>
      obtain ⟨hi, hik⟩ := findK_some hf
      have hx := getD_some (d := ((0, 0) : Nat × Nat)) hi
      have e : stepS S pol s (1, (k : Int)) = (0, (s.bl.getD i (0, 0)).1, ⟨cutB s.bl i k, updT s.tk ((s.bl.getD i (0, 0)).1 : Nat) (some k), (s.bl.getD i (0, 0)).1 + k⟩) := by
        unfold stepS
        rw [if_pos rfl, if_neg hr']
        simp only [Int.toNat_natCast, hf]
      rw [e]
      exact take_some pol h1 h4 k S N sb n pb i _ _ s w hS hO hS2 (by omega) (by omega) hn hpb hf hx hik

theorem give_c (pol : Int) (a : Int) (S N sb n : Nat) (s : St) (w : World) (hS : SpA w N sb S s n) (hO : Ok S s) (hS2 : S ≤ 256) (h1 : -9223372036854775808 ≤ a) (h2 : a ≤ 9223372036854775807) :
    Calls Try.prog 31 #[.pointer (some ⟨sb, 0, none⟩), .int .i64 a] w fun e w' => e = .returned (.int .i64 (stepS S pol s (2, a)).1) ∧ AnsRes N sb S (stepS S pol s (2, a)).2.2 (n + 1) w w' := by
  cases ht : s.tk a with
  | none =>
    have e : stepS S pol s (2, a) = (2, 0, s) := by
      unfold stepS
      rw [if_neg (show ¬ (2 : Int) = 1 by decide), if_pos rfl]
      simp only [ht]
    rw [e]
    exact (give_none a S N sb n s w hS h1 h2 ht).mono fun _ _ ⟨he, hA⟩ => ⟨he, hA.mono (by omega)⟩
  | some m =>
    have e : stepS S pol s (2, a) = (0, 0, ⟨freeB s.bl (a.toNat, m), updT s.tk a none, s.en⟩) := by
      unfold stepS
      rw [if_neg (show ¬ (2 : Int) = 1 by decide), if_pos rfl]
      simp only [ht]
    rw [e]
    have h0 := (hO.tk a m ht).1
    obtain ⟨p, rfl⟩ : ∃ p : Nat, a = (p : Int) := ⟨a.toNat, by omega⟩
    exact (give_some p m S N sb n s w hS hO hS2 ht).mono fun _ _ ⟨he, hA⟩ => ⟨he, hA.mono (by omega)⟩

theorem give_at (S : Nat) (pol : Int) (s : St) (a : Int) : (stepS S pol s (2, a)).2.1 = 0 := by
  unfold stepS
  rw [if_neg (show ¬ (2 : Int) = 1 by decide), if_pos rfl]
  cases s.tk a <;> rfl

set_option maxRecDepth 100000 in
set_option maxHeartbeats 2000000 in
theorem answer_c (pol : Int) (h1 : 1 ≤ pol) (h4 : pol ≤ 4) (k a : Int) (S N sb n pb : Nat) (s : St) (w : World) (hS : SpA w N sb S s n) (hO : Ok S s) (hS2 : S ≤ 256) (hn : n ≤ 1000) (hpb : w.heap[pb]? = some (.cells #[.pointer (some ⟨sb, 0, none⟩)] 44)) (ha1 : -9223372036854775808 ≤ a) (ha2 : a ≤ 9223372036854775807) :
    Calls Try.prog 18 #[.pointer (some ⟨sb, 0, none⟩), .agg #[.int .i64 k, .int .i64 a], fvOf pol pb] w fun e w' => e = .returned (.tuple #[.int .i64 (((stepS S pol s (k, a)).2.1 : Nat) : Int), .int .i64 (stepS S pol s (k, a)).1]) ∧ AnsRes N sb S (stepS S pol s (k, a)).2.2 (n + 1) w w' := by
  have hb1 : Below w.heap.size w (w.alloc (.cells #[.int .i64 k, .int .i64 a] 38)) := (Below.refl _ _).alloc (Nat.le_refl _) _
  have hS1 := hS.below hb1
  have hle := hS.le
  have hpb1 : (w.alloc (.cells #[.int .i64 k, .int .i64 a] 38)).heap[pb]? = some (.cells #[.pointer (some ⟨sb, 0, none⟩)] 44) := by rw [hb1.block pb (Array.getElem?_eq_some_iff.1 hpb).1]; exact hpb
  by_cases hk1 : k = 1
  · subst hk1
    have Hc := hide (take_c pol h1 h4 a S N sb n pb s _ hS1 hO hS2 hn hpb1)
    clear hS hS1 hO hpb hpb1
    generalize fvOf pol pb = fv at *
    generalize stepS S pol s (1, a) = R at *
    obtain ⟨c, at', s'⟩ := R
    go_enter Try.func18, Try.ntmps18
    go_wp2_with (go_at_call 30; go_must (refine (unhide Hc).mono ?_); go_must (rintro e w5 ⟨he, hA5⟩; subst he; have HA5 := hide hA5; clear hA5))
    go_ret2
    obtain ⟨a1, a2, a3⟩ := unhide HA5
    exact ⟨rfl, a1, (hb1.mono hle).trans a2, (KeepT.below hb1).trans a3⟩
  · by_cases hk2 : k = 2
    · subst hk2
      have Hc := hide (give_c pol a S N sb n s _ hS1 hO hS2 ha1 ha2)
      have Hat := hide (give_at S pol s a)
      clear hS hS1 hO hpb hpb1
      generalize fvOf pol pb = fv at *
      generalize stepS S pol s (2, a) = R at *
      obtain ⟨c, at', s'⟩ := R
      go_enter Try.func18, Try.ntmps18
      go_wp2_with (go_at_call 31; go_must (refine (unhide Hc).mono ?_); go_must (rintro e w5 ⟨he, hA5⟩; subst he; have HA5 := hide hA5; clear hA5))
      go_ret2
      obtain ⟨a1, a2, a3⟩ := unhide HA5
      have hat : at' = 0 := unhide Hat
      exact ⟨by rw [hat]; rfl, a1, (hb1.mono hle).trans a2, (KeepT.below hb1).trans a3⟩
    · have e : stepS S pol s (k, a) = (5, 0, s) := by
        unfold stepS
        rw [if_neg hk1, if_neg hk2]
      rw [e]
      have HA := hide ((AnsRes.same hS hb1).mono (n' := n + 1) (by omega))
      have d1 : (k == 1) = false := by simpa using hk1
      have d2 : (k == 2) = false := by simpa using hk2
      clear hS hS1 hO hpb hpb1
      generalize fvOf pol pb = fv at *
      go_enter Try.func18, Try.ntmps18
      go_wp2
      go_ret2
      exact ⟨rfl, unhide HA⟩

set_option maxRecDepth 100000 in
set_option maxHeartbeats 2000000 in
theorem newSpace_c (z : Int) (w : World) :
    Calls Try.prog 16 #[.int .i64 z] w fun e w' => e = .returned (.pointer (some ⟨w.heap.size + 2, 0, none⟩)) ∧ w' = ((w.alloc (.cells #[.int .i64 0, .int .i64 z] 36)).alloc (.map #[] 0)).alloc (.cells #[.int .i64 z, .slice (some ⟨w.heap.size, 0, none⟩) 1 1, .map (some (w.heap.size + 1)), .int .i64 0] 53) := by
  have hmm := @run_makeMap Try.prog
  go_enter Try.func16, Try.ntmps16
  go_wp2
  go_ret
  exact ⟨rfl, rfl⟩

theorem space_new (S : Nat) (w : World) (N : Nat) (hN : N ≤ w.heap.size) : SpA (((w.alloc (.cells #[.int .i64 0, .int .i64 (S : Nat)] 36)).alloc (.map #[] 0)).alloc (.cells #[.int .i64 (S : Nat), .slice (some ⟨w.heap.size, 0, none⟩) 1 1, .map (some (w.heap.size + 1)), .int .i64 0] 53)) N (w.heap.size + 2) S (startS S) 0 := by
  have hmp := World.ownsMap_made (H := Unit) (w.alloc (.cells #[.int .i64 0, .int .i64 (S : Nat)] 36)) Try.prog 3 (plainElem Try.prog 3)
  rw [World.size_alloc] at hmp
  refine ⟨w.heap.size + 1, w.heap.size, 1, .map [], ⟨?_, ?_, hmp.alloc _, by omega, by omega⟩, tkD_nil⟩
  · have := heap_alloc_new ((w.alloc (.cells #[.int .i64 0, .int .i64 (S : Nat)] 36)).alloc (.map #[] 0)) (.cells #[.int .i64 (S : Nat), .slice (some ⟨w.heap.size, 0, none⟩) 1 1, .map (some (w.heap.size + 1)), .int .i64 0] 53)
    simpa [startS] using this
  · have hrow : (w.alloc (.cells #[.int .i64 0, .int .i64 (S : Nat)] 36)).ownsRow N 36 2 (.slice (some ⟨w.heap.size, 0, none⟩) 1 1) 1 (cellsB [(0, S)]) :=
      ⟨rfl, .inr ⟨w.heap.size, 1, _, rfl, hN, heap_alloc_new _ _, Nat.le_refl _, by simp only [maxLen]; omega, rfl, rfl⟩⟩
    exact (hrow.alloc _).alloc _

set_option maxRecDepth 100000 in
set_option maxHeartbeats 2000000 in
theorem policy_c (z : Int) (sb : Nat) (w : World) :
    Calls Try.prog 17 #[.pointer (some ⟨sb, 0, none⟩), .int .i64 z] w fun e w' => e = .returned (if 1 ≤ z ∧ z ≤ 4 then fvOf z w.heap.size else .nilFunc) ∧ w' = w.alloc (.cells #[.pointer (some ⟨sb, 0, none⟩)] 44) := by
  by_cases h1 : z = 1
  · subst h1
    go_enter Try.func17, Try.ntmps17
    go_wp2
    go_ret
    exact ⟨rfl, rfl⟩
  · have d1 : (z == 1) = false := by simpa using h1
    by_cases h2 : z = 2
    · subst h2
      go_enter Try.func17, Try.ntmps17
      go_wp2
      go_ret
      exact ⟨rfl, rfl⟩
    · have d2 : (z == 2) = false := by simpa using h2
      by_cases h3 : z = 3
      · subst h3
        go_enter Try.func17, Try.ntmps17
        go_wp2
        go_ret
        exact ⟨rfl, rfl⟩
      · have d3 : (z == 3) = false := by simpa using h3
        by_cases h4 : z = 4
        · subst h4
          go_enter Try.func17, Try.ntmps17
          go_wp2
          go_ret
          exact ⟨rfl, rfl⟩
        · have d4 : (z == 4) = false := by simpa using h4
          rw [if_neg (by omega)]
          go_enter Try.func17, Try.ntmps17
          go_wp2
          go_ret
          exact ⟨rfl, rfl⟩

end Go.Proofs.Ytgbbcfngncofgaa

/- What Play tells, in memory. -/
namespace Go.Proofs.Ytgbbcfngncofgaa
set_option linter.unusedSimpArgs false
set_option linter.unusedVariables false
open Go.RowKit

def intsV (l : List Int) : List Value := l.map (.int .i64 ·)
theorem intsV_snoc (l : List Int) (x : Int) : intsV (l ++ [x]) = intsV l ++ [.int .i64 x] := by simp [intsV]
theorem intsV_len (l : List Int) : (intsV l).length = l.length := by simp [intsV]
theorem intsV_get {l : List Int} {k : Nat} {x : Int} (h : l[k]? = some x) : (intsV l)[k]? = some (.int .i64 x) := by simp [intsV, h]

/-- A slice of numbers, below block B. -/
def Nums (B : Nat) (w : World) (a : Option Addr) (l : List Int) : Prop :=
  l.length ≤ 9223372036854775807 ∧ (l ≠ [] → ∃ b off, a = some ⟨b, off, none⟩ ∧ b < B ∧ ∀ k v, l[k]? = some v → w.cell? ⟨b, off + k, none⟩ = some (.int .i64 v))
theorem Nums.below {B : Nat} {w w' : World} {a : Option Addr} {l : List Int} (h : Nums B w a l) (hb : Below B w w') : Nums B w' a l := by
  refine ⟨h.1, fun hne => ?_⟩
  obtain ⟨b, off, rfl, hB, hc⟩ := h.2 hne
  refine ⟨b, off, rfl, hB, fun k v hk => ?_⟩
  rw [hb.cell (p := ⟨b, off + k, none⟩) hB]
  exact hc k v hk
theorem Nums.mono {B B' : Nat} {w : World} {a : Option Addr} {l : List Int} (h : Nums B w a l) (hb : B ≤ B') : Nums B' w a l := by
  refine ⟨h.1, fun hne => ?_⟩
  obtain ⟨b, off, rfl, hB, hc⟩ := h.2 hne
  exact ⟨b, off, rfl, by omega, hc⟩
theorem Nums.at {B : Nat} {w : World} {a : Option Addr} {l : List Int} (h : Nums B w a l) {k : Nat} {x : Int} (hk : l[k]? = some x) :
    ∃ b off, a = some ⟨b, off, none⟩ ∧ b < B ∧ w.cell? ⟨b, off + k, none⟩ = some (.int .i64 x) := by
  obtain ⟨b, off, rfl, hB, hc⟩ := h.2 (by intro e; subst e; simp at hk)
  exact ⟨b, off, rfl, hB, hc k x hk⟩
theorem nums_nil (B : Nat) (w : World) (a : Option Addr) : Nums B w a [] := ⟨by simp, fun h => absurd rfl h⟩
theorem nums_of_owns {w : World} {base : Nat} {e : TypeId} {v : Value} {l : List Int} (h : w.ownsRow base e 1 v l.length (intsV l)) (hs : l.length ≤ 9223372036854775807) :
    ∃ a cap, v = .slice a l.length cap ∧ Nums w.heap.size w a l ∧ l.length ≤ cap := by
  obtain ⟨_, h2⟩ := h
  rcases h2 with ⟨rfl, h0⟩ | ⟨g, cap, cur, rfl, hb, hg, hc1, hc2, hc3, htake⟩
  · have : l = [] := List.eq_nil_of_length_eq_zero h0
    subst this
    exact ⟨none, 0, rfl, nums_nil _ _ _, Nat.le_refl _⟩
  · refine ⟨_, cap, rfl, ⟨hs, fun _ => ⟨g, 0, rfl, (Array.getElem?_eq_some_iff.1 hg).1, fun k v hk => ?_⟩⟩, hc1⟩
    have h1 := intsV_get hk
    rw [← htake, List.getElem?_take] at h1
    split at h1
    · rw [Nat.zero_add, cell_of_row w g k cur e (0, 0) hg]; simpa using h1
    · cases h1

/-- A slice of pairs of numbers. -/
def Asks (B : Nat) (w : World) (a : Option Addr) (l : List (Int × Int)) : Prop :=
  l.length ≤ 9223372036854775807 ∧ (l ≠ [] → ∃ b off, a = some ⟨b, off, none⟩ ∧ b < B ∧ ∀ k v, l[k]? = some v → w.cell? ⟨b, off + k * 2, none⟩ = some (.int .i64 v.1) ∧ w.cell? ⟨b, off + k * 2 + 1, none⟩ = some (.int .i64 v.2))
theorem Asks.below {B : Nat} {w w' : World} {a : Option Addr} {l : List (Int × Int)} (h : Asks B w a l) (hb : Below B w w') : Asks B w' a l := by
  refine ⟨h.1, fun hne => ?_⟩
  obtain ⟨b, off, rfl, hB, hc⟩ := h.2 hne
  refine ⟨b, off, rfl, hB, fun k v hk => ?_⟩
  rw [hb.cell (p := ⟨b, off + k * 2, none⟩) hB, hb.cell (p := ⟨b, off + k * 2 + 1, none⟩) hB]
  exact hc k v hk
theorem Asks.mono {B B' : Nat} {w : World} {a : Option Addr} {l : List (Int × Int)} (h : Asks B w a l) (hb : B ≤ B') : Asks B' w a l := by
  refine ⟨h.1, fun hne => ?_⟩
  obtain ⟨b, off, rfl, hB, hc⟩ := h.2 hne
  exact ⟨b, off, rfl, by omega, hc⟩
theorem Asks.at {B : Nat} {w : World} {a : Option Addr} {l : List (Int × Int)} (h : Asks B w a l) {k : Nat} {x y : Int} (hk : l[k]? = some (x, y)) :
    ∃ b off, a = some ⟨b, off, none⟩ ∧ b < B ∧ w.cell? ⟨b, off + k * 2, none⟩ = some (.int .i64 x) ∧ w.cell? ⟨b, off + k * 2 + 1, none⟩ = some (.int .i64 y) := by
  obtain ⟨b, off, rfl, hB, hc⟩ := h.2 (by intro e; subst e; simp at hk)
  exact ⟨b, off, rfl, hB, hc k _ hk⟩

/-- A slice of blocks. -/
def Blks (B : Nat) (w : World) (a : Option Addr) (l : List (Nat × Nat)) : Prop :=
  l.length ≤ 9223372036854775807 ∧ (l ≠ [] → ∃ b off, a = some ⟨b, off, none⟩ ∧ b < B ∧ ∀ k x, l[k]? = some x → w.cell? ⟨b, off + k * 2, none⟩ = some (.int .i64 (x.1 : Nat)) ∧ w.cell? ⟨b, off + k * 2 + 1, none⟩ = some (.int .i64 (x.2 : Nat)))
theorem Blks.below {B : Nat} {w w' : World} {a : Option Addr} {l : List (Nat × Nat)} (h : Blks B w a l) (hb : Below B w w') : Blks B w' a l := by
  refine ⟨h.1, fun hne => ?_⟩
  obtain ⟨b, off, rfl, hB, hc⟩ := h.2 hne
  refine ⟨b, off, rfl, hB, fun k v hk => ?_⟩
  rw [hb.cell (p := ⟨b, off + k * 2, none⟩) hB, hb.cell (p := ⟨b, off + k * 2 + 1, none⟩) hB]
  exact hc k v hk
theorem Blks.mono {B B' : Nat} {w : World} {a : Option Addr} {l : List (Nat × Nat)} (h : Blks B w a l) (hb : B ≤ B') : Blks B' w a l := by
  refine ⟨h.1, fun hne => ?_⟩
  obtain ⟨b, off, rfl, hB, hc⟩ := h.2 hne
  exact ⟨b, off, rfl, by omega, hc⟩
theorem Blks.at {B : Nat} {w : World} {a : Option Addr} {l : List (Nat × Nat)} (h : Blks B w a l) {k p n : Nat} (hk : l[k]? = some (p, n)) :
    ∃ b off, a = some ⟨b, off, none⟩ ∧ b < B ∧ w.cell? ⟨b, off + k * 2, none⟩ = some (.int .i64 (p : Nat)) ∧ w.cell? ⟨b, off + k * 2 + 1, none⟩ = some (.int .i64 (n : Nat)) := by
  obtain ⟨b, off, rfl, hB, hc⟩ := h.2 (by intro e; subst e; simp at hk)
  exact ⟨b, off, rfl, hB, hc k _ hk⟩
theorem blks_nil (B : Nat) (w : World) (a : Option Addr) : Blks B w a [] := ⟨by simp, fun h => absurd rfl h⟩
theorem blks_of_owns {w : World} {base g cap : Nat} {l : List (Nat × Nat)} (h : w.ownsRow base 36 2 (.slice (some ⟨g, 0, none⟩) l.length cap) l.length (cellsB l)) (hs : l.length ≤ 9223372036854775807) : Blks w.heap.size w (some ⟨g, 0, none⟩) l := by
  refine ⟨hs, fun _ => ⟨g, 0, rfl, (h.lt g rfl).2, fun k x hk => ?_⟩⟩
  have hlt := (List.getElem?_eq_some_iff.1 hk).1
  obtain ⟨h1, h2⟩ := cellsB_get l k x hk
  exact ⟨by rw [Nat.zero_add, h.cellAt _ (by omega)]; exact h1, by rw [Nat.zero_add, h.cellAt _ (by omega)]; exact h2⟩

/-- A row and a box of another type lie apart. -/
theorem row_ne {W : World} {base : Nat} {e t : TypeId} {size : Nat} {v : Value} {n : Nat} {xs : List Value} {tb : Nat} {cs : Array Value} (h : W.ownsRow base e size v n xs) (hb : W.heap[tb]? = some (.cells cs t)) (hne : e ≠ t) : v.ownBlock ≠ some tb := by
  rcases h.2 with ⟨rfl, _⟩ | ⟨g, cap, cur, rfl, _, hg, _⟩
  · simp [Value.ownBlock]
  · intro e'
    obtain rfl : g = tb := by simpa [Value.ownBlock] using e'
    rw [hg] at hb
    injection hb with hb
    injection hb with _ hb
    exact hne hb
theorem row_ne_row {W : World} {base base' : Nat} {e t : TypeId} {size size' : Nat} {v u : Value} {n n' : Nat} {xs xs' : List Value} (h : W.ownsRow base e size v n xs) (h' : W.ownsRow base' t size' u n' xs') (hne : e ≠ t) : v.ownBlock = none ∨ v.ownBlock ≠ u.ownBlock := by
  rcases h'.2 with ⟨rfl, _⟩ | ⟨g, cap, cur, rfl, _, hg, _⟩
  · cases hv : v.ownBlock with
    | none => exact .inl rfl
    | some k => exact .inr (by simp [Value.ownBlock])
  · exact .inr (row_ne h hg hne)

theorem row_keepT {W W' : World} {base : Nat} {e : TypeId} {size : Nat} {v : Value} {n : Nat} {xs : List Value} (h : W.ownsRow base e size v n xs) (hk : KeepT W W') (h1 : e ≠ 36) (h2 : e ≠ 53) : W'.ownsRow base e size v n xs := by
  refine ⟨h.1, ?_⟩
  rcases h.2 with h | ⟨g, cap, cur, hv, hb, hg, h3⟩
  · exact .inl h
  · exact .inr ⟨g, cap, cur, hv, hb, hk g cur e hg h1 h2, h3⟩

theorem SpA.keptG {W W' : World} {N sb S : Nat} {s : St} {n : Nat} {r : Option Nat} (h : SpA W N sb S s n) (hg : W.grownBy W' r) (hr : ∀ k, r = some k → ∃ cs t, W.heap[k]? = some (.cells cs t) ∧ t ≠ 36 ∧ t ≠ 53) : SpA W' N sb S s n := by
  obtain ⟨mb, g, cap, M, h1, h2⟩ := h
  have k1 : some sb ≠ r := by
    intro e
    obtain ⟨cs, t, hc, _, ht⟩ := hr sb e.symm
    rw [h1.box] at hc
    injection hc with hc
    injection hc with _ hc
    exact ht hc.symm
  have k2 : some g ≠ r := by
    intro e
    obtain ⟨cs, t, hc, ht, _⟩ := hr g e.symm
    obtain ⟨CL, hCL⟩ := h1.rowAt
    rw [hCL] at hc
    injection hc with hc
    injection hc with _ hc
    exact ht hc.symm
  have k3 : some mb ≠ r := by
    intro e
    obtain ⟨cs, t, hc, _, _⟩ := hr mb e.symm
    obtain ⟨es, c, hm⟩ := h1.mapAt
    rw [hm] at hc
    injection hc with hc
    cases hc
  exact ⟨mb, g, cap, M, ⟨by rw [hg.block sb h1.lt k1]; exact h1.box, h1.row.kept hg (.inr k2), h1.map.kept hg k3, h1.lo, h1.lm⟩, h2⟩

/-- What was told so far: codes and places, in a box. -/
structure Told (W : World) (N tb : Nat) (vc va : Value) (C A : List Int) : Prop where
  box : W.heap[tb]? = some (.cells #[vc, va, .slice none 0 0] 27)
  rc : W.ownsRow N 28 1 vc C.length (intsV C)
  ra : W.ownsRow N 3 1 va A.length (intsV A)
  lo : N ≤ tb

theorem Told.lt {W : World} {N tb : Nat} {vc va : Value} {C A : List Int} (h : Told W N tb vc va C A) : tb < W.heap.size := (Array.getElem?_eq_some_iff.1 h.box).1
theorem Told.below {W W' : World} {N tb : Nat} {vc va : Value} {C A : List Int} (h : Told W N tb vc va C A) (hb : Below W.heap.size W W') : Told W' N tb vc va C A :=
  ⟨by rw [hb.block _ h.lt]; exact h.box, ownsRow_below h.rc hb, ownsRow_below h.ra hb, h.lo⟩
theorem Told.keepT {W W' : World} {N tb : Nat} {vc va : Value} {C A : List Int} (h : Told W N tb vc va C A) (hk : KeepT W W') : Told W' N tb vc va C A :=
  ⟨hk tb _ 27 h.box (by decide) (by decide), row_keepT h.rc hk (by decide) (by decide), row_keepT h.ra hk (by decide) (by decide), h.lo⟩
theorem Told.c0 {W : World} {N tb : Nat} {vc va : Value} {C A : List Int} (h : Told W N tb vc va C A) : W.cell? ⟨tb, 0, none⟩ = some vc := by rw [cell_of_row W tb 0 _ 27 (0, 0) h.box]; rfl
theorem Told.c1 {W : World} {N tb : Nat} {vc va : Value} {C A : List Int} (h : Told W N tb vc va C A) : W.cell? ⟨tb, 1, none⟩ = some va := by rw [cell_of_row W tb 1 _ 27 (0, 0) h.box]; rfl
theorem Told.c2 {W : World} {N tb : Nat} {vc va : Value} {C A : List Int} (h : Told W N tb vc va C A) : W.cell? ⟨tb, 2, none⟩ = some (.slice none 0 0) := by rw [cell_of_row W tb 2 _ 27 (0, 0) h.box]; rfl
theorem Told.fr {W : World} {N tb : Nat} {vc va : Value} {C A : List Int} (h : Told W N tb vc va C A) (j : Nat) : W.frozen? ⟨tb, j, none⟩ = false := frozen_of_row W tb j _ 27 h.box

/-- Behind the append of a code: ahead of the store, and behind it. -/
theorem Told.pushC {W w1 : World} {N tb : Nat} {vc va v' : Value} {C A : List Int} {x : Int} {sb S n : Nat} {s : St} (h : Told W N tb vc va C A) (hS : SpA W N sb S s n) (hrow : w1.ownsRow N 28 1 v' (C.length + 1) (intsV C ++ [.int .i64 x])) (hg : W.grownBy w1 vc.ownBlock) :
    w1.heap[tb]? = some (.cells #[vc, va, .slice none 0 0] 27) ∧ Told (w1.setCell ⟨tb, 0, none⟩ v') N tb v' va (C ++ [x]) A ∧ SpA (w1.setCell ⟨tb, 0, none⟩ v') N sb S s n := by
  have hb : w1.heap[tb]? = some (.cells #[vc, va, .slice none 0 0] 27) := by
    rw [hg.block tb h.lt (fun e => row_ne h.rc h.box (by decide) e.symm)]; exact h.box
  have hg2 := grown_set w1 tb 0 v'
  refine ⟨hb, ⟨by rw [heap_setCell_same w1 tb 0 _ 27 _ hb]; rfl, ?_, ?_, h.lo⟩, ?_⟩
  · rw [intsV_snoc, List.length_append]
    exact hrow.kept hg2 (.inr (row_ne hrow hb (by decide)))
  · have h1 := h.ra.kept hg (row_ne_row h.ra h.rc (by decide))
    exact h1.kept hg2 (.inr (row_ne h1 hb (by decide)))
  · refine (hS.keptG hg (fun k e => ?_)).keptG hg2 (fun k e => ?_)
    · rcases h.rc.2 with ⟨hv, _⟩ | ⟨g, cap, cur, hv, _, hgr, _⟩
      · rw [hv] at e; cases e
      · rw [hv] at e; injection e with e; simp only at e; subst e; exact ⟨_, 28, hgr, by decide, by decide⟩
    · injection e with e; subst e; exact ⟨_, 27, hb, by decide, by decide⟩

theorem Told.pushA {W w1 : World} {N tb : Nat} {vc va v' : Value} {C A : List Int} {x : Int} {sb S n : Nat} {s : St} (h : Told W N tb vc va C A) (hS : SpA W N sb S s n) (hrow : w1.ownsRow N 3 1 v' (A.length + 1) (intsV A ++ [.int .i64 x])) (hg : W.grownBy w1 va.ownBlock) :
    w1.heap[tb]? = some (.cells #[vc, va, .slice none 0 0] 27) ∧ Told (w1.setCell ⟨tb, 1, none⟩ v') N tb vc v' C (A ++ [x]) ∧ SpA (w1.setCell ⟨tb, 1, none⟩ v') N sb S s n := by
  have hb : w1.heap[tb]? = some (.cells #[vc, va, .slice none 0 0] 27) := by
    rw [hg.block tb h.lt (fun e => row_ne h.ra h.box (by decide) e.symm)]; exact h.box
  have hg2 := grown_set w1 tb 1 v'
  refine ⟨hb, ⟨by rw [heap_setCell_same w1 tb 1 _ 27 _ hb]; rfl, ?_, ?_, h.lo⟩, ?_⟩
  · have h1 := h.rc.kept hg (row_ne_row h.rc h.ra (by decide))
    exact h1.kept hg2 (.inr (row_ne h1 hb (by decide)))
  · rw [intsV_snoc, List.length_append]
    exact hrow.kept hg2 (.inr (row_ne hrow hb (by decide)))
  · refine (hS.keptG hg (fun k e => ?_)).keptG hg2 (fun k e => ?_)
    · rcases h.ra.2 with ⟨hv, _⟩ | ⟨g, cap, cur, hv, _, hgr, _⟩
      · rw [hv] at e; cases e
      · rw [hv] at e; injection e with e; simp only at e; subst e; exact ⟨_, 3, hgr, by decide, by decide⟩
    · injection e with e; subst e; exact ⟨_, 27, hb, by decide, by decide⟩

/-- Boxes of pointers are as they were behind an append. -/
theorem ptr_kept {W w1 : World} {N pb : Nat} {e : TypeId} {size : Nat} {v u : Value} {n : Nat} {xs : List Value} (hp : W.heap[pb]? = some (.cells #[u] 44)) (hr : W.ownsRow N e size v n xs) (he : e ≠ 44) (hg : W.grownBy w1 v.ownBlock) : w1.heap[pb]? = some (.cells #[u] 44) := by
  rw [hg.block pb (Array.getElem?_eq_some_iff.1 hp).1 (fun e' => row_ne hr hp he e'.symm)]; exact hp

end Go.Proofs.Ytgbbcfngncofgaa

/- Walks: Play. -/
namespace Go.Proofs.Ytgbbcfngncofgaa
set_option linter.unusedSimpArgs false
set_option linter.unusedVariables false
open Go.RowKit

/-- Which error Play tells. -/
def playE (z pol : Int) (n : Nat) : Int := if z < 1 ∨ 256 < z then 3 else if ¬ (1 ≤ pol ∧ pol ≤ 4) then 5 else if 100 < n then 1 else 0

def codesL (S : Nat) (pol : Int) (sc : List (Int × Int)) (k : Nat) : List Int := (List.range k).map (codeK S pol sc)
def atsL (S : Nat) (pol : Int) (sc : List (Int × Int)) (k : Nat) : List Int := (List.range k).map fun i => ((atK S pol sc i : Nat) : Int)
theorem codesL_succ (S : Nat) (pol : Int) (sc : List (Int × Int)) (k : Nat) : codesL S pol sc (k + 1) = codesL S pol sc k ++ [codeK S pol sc k] := by simp [codesL, List.range_succ]
theorem atsL_succ (S : Nat) (pol : Int) (sc : List (Int × Int)) (k : Nat) : atsL S pol sc (k + 1) = atsL S pol sc k ++ [((atK S pol sc k : Nat) : Int)] := by simp [atsL, List.range_succ]
theorem codesL_len (S : Nat) (pol : Int) (sc : List (Int × Int)) (k : Nat) : (codesL S pol sc k).length = k := by simp [codesL]
theorem atsL_len (S : Nat) (pol : Int) (sc : List (Int × Int)) (k : Nat) : (atsL S pol sc k).length = k := by simp [atsL]

/-- What Play tells, plainly. -/
def PlIs (z pol : Int) (sc : List (Int × Int)) (C A : List Int) (F : List (Nat × Nat)) : Prop :=
  (playE z pol sc.length ≠ 0 → C = [] ∧ A = [] ∧ F = []) ∧ (playE z pol sc.length = 0 → C = codesL z.toNat pol sc sc.length ∧ A = atsL z.toNat pol sc sc.length ∧ F = (stK z.toNat pol sc sc.length).bl)

/-- What Play tells, in memory. -/
def PlRes (z pol : Int) (sc : List (Int × Int)) (B0 : Nat) (e : Ending) (W : World) : Prop :=
  ∃ ac cc aa ca af cf C A F, e = .returned (.tuple #[.agg #[.slice ac C.length cc, .slice aa A.length ca, .slice af F.length cf], .int .i64 (playE z pol sc.length)]) ∧ Nums W.heap.size W ac C ∧ Nums W.heap.size W aa A ∧ Blks W.heap.size W af F ∧ Hid (PlIs z pol sc C A F) ∧ A.length ≤ ca ∧ Hid (∀ x : Addr, (ac = some x ∨ aa = some x ∨ af = some x) → B0 ≤ x.block)

theorem equalIn_fn (w : World) (d : Nat) (f : Fn) (a b : Array Value) : (Op.equalIn (d + 1) 47 (.func f a b) .nilFunc).run Try.prog w = .ok false w := by
  simp [Op.equalIn, run_underlying Try.underlying47]
theorem equalIn_nn (w : World) (d : Nat) : (Op.equalIn (d + 1) 47 .nilFunc .nilFunc).run Try.prog w = .ok true w := by
  simp [Op.equalIn, run_underlying Try.underlying47]
theorem eql_fn (w : World) (f : Fn) (a b : Array Value) : (binOp .eql 47 (.func f a b) .nilFunc).run Try.prog w = .ok (.bool false) w := by
  simp only [binOp]
  simp [Op.equal, Op.maxDepth, equalIn_fn w 9999 f a b]
theorem eql_nf (w : World) : (binOp .eql 47 .nilFunc .nilFunc).run Try.prog w = .ok (.bool true) w := by
  simp only [binOp]
  simp [Op.equal, Op.maxDepth, equalIn_nn w 9999]
def fnOf (pol : Int) : Fn := if pol = 1 then .func 26 else if pol = 2 then .func 27 else if pol = 3 then .func 28 else .func 29
def cbOf (pol : Int) (pb : Nat) : Array Value := if pol = 3 then #[.pointer (some ⟨pb, 0, none⟩)] else #[]
theorem fvOf_eq (pol : Int) (pb : Nat) : fvOf pol pb = .func (fnOf pol) #[] (cbOf pol pb) := by
  unfold fvOf fnOf cbOf
  by_cases h1 : pol = 1
  · subst h1; rfl
  · by_cases h2 : pol = 2
    · subst h2; rfl
    · by_cases h3 : pol = 3
      · subst h3; rfl
      · simp [h1, h2, h3]

theorem plRes_bad {z pol : Int} {sc : List (Int × Int)} {B0 : Nat} {W : World} {E : Int} (h : playE z pol sc.length = E) (hE : E ≠ 0) : PlRes z pol sc B0 (.returned (.tuple #[.agg #[.slice none 0 0, .slice none 0 0, .slice none 0 0], .int .i64 E])) W :=
  ⟨none, 0, none, 0, none, 0, [], [], [], by rw [h]; rfl, nums_nil _ _ _, nums_nil _ _ _, blks_nil _ _ _, ⟨fun _ => ⟨rfl, rfl, rfl⟩, fun h0 => absurd (h.symm.trans h0) hE⟩, Nat.le_refl _, fun x hx => (by rcases hx with hx | hx | hx <;> cases hx)⟩

/-- The memory ahead of the loop. -/
theorem play_begin (z : Int) (w : World) : ∃ W2, W2 = ((((w.alloc (.cells #[.slice none 0 0, .slice none 0 0, .slice none 0 0] 27)).alloc (.cells #[.int .i64 0, .int .i64 z] 36)).alloc (.map #[] 0)).alloc (.cells #[.int .i64 z, .slice (some ⟨w.heap.size + 1, 0, none⟩) 1 1, .map (some (w.heap.size + 2)), .int .i64 0] 53)).alloc (.cells #[.pointer (some ⟨w.heap.size + 3, 0, none⟩)] 44) ∧
    Below w.heap.size w W2 ∧ W2.heap.size = w.heap.size + 5 ∧ W2.heap[w.heap.size]? = some (.cells #[.slice none 0 0, .slice none 0 0, .slice none 0 0] 27) ∧ W2.heap[w.heap.size + 4]? = some (.cells #[.pointer (some ⟨w.heap.size + 3, 0, none⟩)] 44) ∧
    (∀ S : Nat, z = (S : Int) → SpA W2 (w.heap.size + 1) (w.heap.size + 3) S (startS S) 0) := by
  refine ⟨_, rfl, ?_, by simp, ?_, ?_, ?_⟩
  · exact (((((Below.refl _ _).alloc (Nat.le_refl _) _).alloc (by simp) _).alloc (by simp; omega) _).alloc (by simp; omega) _).alloc (by simp; omega) _
  · rw [Below.heap_alloc _ _ _ (by simp; omega), Below.heap_alloc _ _ _ (by simp; omega), Below.heap_alloc _ _ _ (by simp; omega), Below.heap_alloc _ _ _ (by simp)]
    exact heap_alloc_new _ _
  · have := heap_alloc_new ((((w.alloc (.cells #[.slice none 0 0, .slice none 0 0, .slice none 0 0] 27)).alloc (.cells #[.int .i64 0, .int .i64 z] 36)).alloc (.map #[] 0)).alloc (.cells #[.int .i64 z, .slice (some ⟨w.heap.size + 1, 0, none⟩) 1 1, .map (some (w.heap.size + 2)), .int .i64 0] 53)) (.cells #[.pointer (some ⟨w.heap.size + 3, 0, none⟩)] 44)
    simpa using this
  · rintro S rfl
    have := space_new S (w.alloc (.cells #[.slice none 0 0, .slice none 0 0, .slice none 0 0] 27)) (w.heap.size + 1) (by simp)
    rw [World.size_alloc] at this
    exact this.below ((Below.refl _ _).alloc (Nat.le_refl _) _)

set_option maxRecDepth 100000 in
set_option maxHeartbeats 2000000 in
theorem play_bad (z pol : Int) (a : Option Addr) (c : Nat) (sc : List (Int × Int)) (w : World) (hl : sc.length ≤ 9223372036854775807) (hE : playE z pol sc.length ≠ 0) :
    Calls Try.prog 9 #[.int .i64 z, .int .i64 pol, .slice a sc.length c] w fun e w' => PlRes z pol sc w.heap.size e w' ∧ Below w.heap.size w w' := by
  obtain ⟨W2, hW2, hb2, hs2, hr2, hp2, _⟩ := play_begin z w
  have Hn : Hid (∀ W, Calls Try.prog 16 #[.int .i64 z] W fun e w' => e = .returned (.pointer (some ⟨W.heap.size + 2, 0, none⟩)) ∧ w' = ((W.alloc (.cells #[.int .i64 0, .int .i64 z] 36)).alloc (.map #[] 0)).alloc (.cells #[.int .i64 z, .slice (some ⟨W.heap.size, 0, none⟩) 1 1, .map (some (W.heap.size + 1)), .int .i64 0] 53)) := fun W => newSpace_c z W
  have HW2 := hide hW2
  have hrb : w.heap.size < W2.heap.size := by omega
  have r0 : W2.cell? ⟨w.heap.size, 0, none⟩ = some (.slice none 0 0) := by rw [cell_of_row W2 _ 0 _ 27 (0, 0) hr2]; rfl
  have r1 : W2.cell? ⟨w.heap.size, 1, none⟩ = some (.slice none 0 0) := by rw [cell_of_row W2 _ 1 _ 27 (0, 0) hr2]; rfl
  have r2 : W2.cell? ⟨w.heap.size, 2, none⟩ = some (.slice none 0 0) := by rw [cell_of_row W2 _ 2 _ 27 (0, 0) hr2]; rfl
  have f0 := frozen_of_row W2 _ 0 _ 27 hr2
  have f1 := frozen_of_row W2 _ 1 _ 27 hr2
  have f2 := frozen_of_row W2 _ 2 _ 27 hr2
  clear hr2 hp2 hs2 hW2
  by_cases hz : z < 1 ∨ 256 < z
  · obtain ⟨pv, Hp⟩ : ∃ pv : Nat → Value, Hid (∀ sb W, Calls Try.prog 17 #[.pointer (some ⟨sb, 0, none⟩), .int .i64 pol] W fun e w' => e = .returned (pv W.heap.size) ∧ w' = W.alloc (.cells #[.pointer (some ⟨sb, 0, none⟩)] 44)) := ⟨fun n => if 1 ≤ pol ∧ pol ≤ 4 then fvOf pol n else .nilFunc, fun sb W => policy_c pol sb W⟩
    have HE : Hid (playE z pol sc.length = 3) := by show _ = _; simp [playE, hz]
    by_cases hz1 : z < 1
    · have d0 : decide (z < 1) = true := decide_eq_true hz1
      clear hz1 hz
      go_enter Try.func9, Try.ntmps9
      go_wp2_with (first
        | (go_at_call 16; go_must (refine (unhide Hn _).mono ?_); go_must (rintro e w5 ⟨he, hw5⟩; subst he; subst hw5))
        | (go_at_call 17; go_must (refine (unhide Hp _ _).mono ?_); go_must (rintro e w6 ⟨he, hw6⟩; subst he; have e6 : w6 = W2 := hw6.trans (unhide HW2).symm; clear hw6 HW2; subst e6)))
      refine bodyPost_ret (v := .tuple #[.agg #[.slice none 0 0, .slice none 0 0, .slice none 0 0], .int .i64 3]) (by simp [results, Try.results9, go_sem, r0, r1, r2]) rfl ⟨plRes_bad (unhide HE) (by decide), ((hb2.setCell (p := ⟨w.heap.size, 0, none⟩) (Nat.le_refl _) _).setCell (p := ⟨w.heap.size, 1, none⟩) (Nat.le_refl _) _).setCell (p := ⟨w.heap.size, 2, none⟩) (Nat.le_refl _) _⟩
    · have d0 : decide (z < 1) = false := decide_eq_false hz1
      have d1 : decide (z > 256) = true := decide_eq_true (by omega)
      have d1' : decide (256 < z) = true := decide_eq_true (by omega)
      clear hz1 hz
      go_enter Try.func9, Try.ntmps9
      go_wp2_with (first
        | (go_at_call 16; go_must (refine (unhide Hn _).mono ?_); go_must (rintro e w5 ⟨he, hw5⟩; subst he; subst hw5))
        | (go_at_call 17; go_must (refine (unhide Hp _ _).mono ?_); go_must (rintro e w6 ⟨he, hw6⟩; subst he; have e6 : w6 = W2 := hw6.trans (unhide HW2).symm; clear hw6 HW2; subst e6)))
      refine bodyPost_ret (v := .tuple #[.agg #[.slice none 0 0, .slice none 0 0, .slice none 0 0], .int .i64 3]) (by simp [results, Try.results9, go_sem, r0, r1, r2]) rfl ⟨plRes_bad (unhide HE) (by decide), ((hb2.setCell (p := ⟨w.heap.size, 0, none⟩) (Nat.le_refl _) _).setCell (p := ⟨w.heap.size, 1, none⟩) (Nat.le_refl _) _).setCell (p := ⟨w.heap.size, 2, none⟩) (Nat.le_refl _) _⟩
  · have d0 : decide (z < 1) = false := decide_eq_false (by omega)
    have d1 : decide (z > 256) = false := decide_eq_false (by omega)
    have d1' : decide (256 < z) = false := decide_eq_false (by omega)
    by_cases hp : 1 ≤ pol ∧ pol ≤ 4
    · have Hp : Hid (∀ sb W, Calls Try.prog 17 #[.pointer (some ⟨sb, 0, none⟩), .int .i64 pol] W fun e w' => e = .returned (.func (fnOf pol) #[] (cbOf pol W.heap.size)) ∧ w' = W.alloc (.cells #[.pointer (some ⟨sb, 0, none⟩)] 44)) := fun sb W => by have := policy_c pol sb W; rw [if_pos hp, fvOf_eq] at this; exact this
      have hn : 100 < sc.length := by
        refine Classical.byContradiction fun h => hE ?_
        unfold playE
        rw [if_neg hz, if_neg (by simpa using hp), if_neg h]
      have HE : Hid (playE z pol sc.length = 1) := by
        show _ = _
        unfold playE
        rw [if_neg hz, if_neg (by simpa using hp), if_pos hn]
      have d2 : decide (100 < sc.length) = true := decide_eq_true hn
      have hev := eql_fn
      clear hz hE hp
      go_enter Try.func9, Try.ntmps9
      go_wp2_with (first
        | (go_at_call 16; go_must (refine (unhide Hn _).mono ?_); go_must (rintro e w5 ⟨he, hw5⟩; subst he; subst hw5))
        | (go_at_call 17; go_must (refine (unhide Hp _ _).mono ?_); go_must (rintro e w6 ⟨he, hw6⟩; subst he; have e6 : w6 = W2 := hw6.trans (unhide HW2).symm; clear hw6 HW2; subst e6)))
      refine bodyPost_ret (v := .tuple #[.agg #[.slice none 0 0, .slice none 0 0, .slice none 0 0], .int .i64 1]) (by simp [results, Try.results9, go_sem, r0, r1, r2]) rfl ⟨plRes_bad (unhide HE) (by decide), ((hb2.setCell (p := ⟨w.heap.size, 0, none⟩) (Nat.le_refl _) _).setCell (p := ⟨w.heap.size, 1, none⟩) (Nat.le_refl _) _).setCell (p := ⟨w.heap.size, 2, none⟩) (Nat.le_refl _) _⟩
    · have Hp : Hid (∀ sb W, Calls Try.prog 17 #[.pointer (some ⟨sb, 0, none⟩), .int .i64 pol] W fun e w' => e = .returned .nilFunc ∧ w' = W.alloc (.cells #[.pointer (some ⟨sb, 0, none⟩)] 44)) := fun sb W => by have := policy_c pol sb W; rw [if_neg hp] at this; exact this
      have HE : Hid (playE z pol sc.length = 5) := by
        show _ = _
        unfold playE
        rw [if_neg hz, if_pos hp]
      have hef := eql_nf
      clear hz hE hp
      go_enter Try.func9, Try.ntmps9
      go_wp2_with (first
        | (go_at_call 16; go_must (refine (unhide Hn _).mono ?_); go_must (rintro e w5 ⟨he, hw5⟩; subst he; subst hw5))
        | (go_at_call 17; go_must (refine (unhide Hp _ _).mono ?_); go_must (rintro e w6 ⟨he, hw6⟩; subst he; have e6 : w6 = W2 := hw6.trans (unhide HW2).symm; clear hw6 HW2; subst e6)))
      refine bodyPost_ret (v := .tuple #[.agg #[.slice none 0 0, .slice none 0 0, .slice none 0 0], .int .i64 5]) (by simp [results, Try.results9, go_sem, r0, r1, r2]) rfl ⟨plRes_bad (unhide HE) (by decide), ((hb2.setCell (p := ⟨w.heap.size, 0, none⟩) (Nat.le_refl _) _).setCell (p := ⟨w.heap.size, 1, none⟩) (Nat.le_refl _) _).setCell (p := ⟨w.heap.size, 2, none⟩) (Nat.le_refl _) _⟩

end Go.Proofs.Ytgbbcfngncofgaa

/- Walks: Play, where nothing is wrong. -/
namespace Go.Proofs.Ytgbbcfngncofgaa
set_option linter.unusedSimpArgs false
set_option linter.unusedVariables false
open Go.RowKit

/-- All asks are numbers of 64 bits. -/
def I64s (sc : List (Int × Int)) : Prop := ∀ x ∈ sc, (-9223372036854775808 ≤ x.1 ∧ x.1 ≤ 9223372036854775807) ∧ (-9223372036854775808 ≤ x.2 ∧ x.2 ≤ 9223372036854775807)

theorem cell27_0 {W : World} {tb : Nat} {x y z : Value} (h : W.heap[tb]? = some (.cells #[x, y, z] 27)) : W.cell? ⟨tb, 0, none⟩ = some x := by rw [cell_of_row W tb 0 _ 27 (0, 0) h]; rfl
theorem cell27_1 {W : World} {tb : Nat} {x y z : Value} (h : W.heap[tb]? = some (.cells #[x, y, z] 27)) : W.cell? ⟨tb, 1, none⟩ = some y := by rw [cell_of_row W tb 1 _ 27 (0, 0) h]; rfl
theorem cell27_2 {W : World} {tb : Nat} {x y z : Value} (h : W.heap[tb]? = some (.cells #[x, y, z] 27)) : W.cell? ⟨tb, 2, none⟩ = some z := by rw [cell_of_row W tb 2 _ 27 (0, 0) h]; rfl

theorem box_kept {W : World} {pb tb : Nat} {u : Value} {cs : Array Value} (hp : W.heap[pb]? = some (.cells #[u] 44)) (ht : W.heap[tb]? = some (.cells cs 27)) (j : Nat) (v : Value) : (W.setCell ⟨tb, j, none⟩ v).heap[pb]? = some (.cells #[u] 44) := by
  rw [Below.heap_setCell _ _ _ _ ?_]
  · exact hp
  · rintro rfl
    rw [hp] at ht
    injection ht with ht
    injection ht with _ ht
    exact absurd ht (by decide)

/-- A row of another type, behind a store in a box of what was told. -/
theorem row_set {W : World} {base : Nat} {e : TypeId} {size : Nat} {v : Value} {n : Nat} {xs : List Value} {tb : Nat} (h : W.ownsRow base e size v n xs) (hb : ∃ cs, W.heap[tb]? = some (.cells cs 27)) (he : e ≠ 27) (j : Nat) (u : Value) : (W.setCell ⟨tb, j, none⟩ u).ownsRow base e size v n xs := by
  obtain ⟨cs, hb⟩ := hb
  exact h.kept (grown_set W tb j u) (.inr (row_ne h hb he))
theorem ty_set {W : World} {tb rb : Nat} (h : ∃ cs, W.heap[rb]? = some (.cells cs 27)) (j : Nat) (u : Value) : ∃ cs, (W.setCell ⟨tb, j, none⟩ u).heap[rb]? = some (.cells cs 27) := by
  obtain ⟨cs, h⟩ := h
  by_cases e : rb = tb
  · subst e
    exact ⟨_, heap_setCell_same W rb j cs 27 u h⟩
  · exact ⟨cs, by rw [Below.heap_setCell _ _ _ _ e]; exact h⟩
theorem row_end {W : World} {base : Nat} {e : TypeId} {size : Nat} {v : Value} {n : Nat} {xs : List Value} {tb rb : Nat} (h : W.ownsRow base e size v n xs) (h1 : ∃ cs, W.heap[tb]? = some (.cells cs 27)) (h2 : ∃ cs, W.heap[rb]? = some (.cells cs 27)) (he : e ≠ 27) (u0 u1 u2 u3 : Value) :
    ((((W.setCell ⟨tb, 2, none⟩ u0).setCell ⟨rb, 0, none⟩ u1).setCell ⟨rb, 1, none⟩ u2).setCell ⟨rb, 2, none⟩ u3).ownsRow base e size v n xs :=
  row_set (row_set (row_set (row_set h h1 he 2 u0) (ty_set h2 2 u0) he 0 u1) (ty_set (ty_set h2 2 u0) 0 u1) he 1 u2) (ty_set (ty_set (ty_set h2 2 u0) 0 u1) 1 u2) he 2 u3

/-- What holds behind k asks. -/
structure PI (w0 wr : World) (N sb pb tb S : Nat) (pol : Int) (sc : List (Int × Int)) (k : Nat) : Prop where
  sp : SpA wr N sb S (stK S pol sc k) k
  ptr : wr.heap[pb]? = some (.cells #[.pointer (some ⟨sb, 0, none⟩)] 44)
  told : ∃ vc va, Told wr N tb vc va (codesL S pol sc k) (atsL S pol sc k)
  bel : Below N w0 wr

theorem PI.size {w0 wr : World} {N sb pb tb S : Nat} {pol : Int} {sc : List (Int × Int)} {k : Nat} (h : PI w0 wr N sb pb tb S pol sc k) : N ≤ wr.heap.size := h.sp.le

set_option maxRecDepth 100000 in
set_option maxHeartbeats 4000000 in
theorem play_good (S : Nat) (pol : Int) (a : Option Addr) (c : Nat) (sc : List (Int × Int)) (B : Nat) (w : World) (hS1 : 1 ≤ S) (hS2 : S ≤ 256) (h1 : 1 ≤ pol) (h4 : pol ≤ 4) (hn : sc.length ≤ 100) (hA : Asks B w a sc) (hB : B ≤ w.heap.size) (hI : I64s sc) :
    Calls Try.prog 9 #[.int .i64 (S : Nat), .int .i64 pol, .slice a sc.length c] w fun e w' => PlRes (S : Nat) pol sc w.heap.size e w' ∧ Below w.heap.size w w' := by
  obtain ⟨i28, hi28, hx0, hx1, hx2⟩ := info_parts Try.info28
  obtain ⟨i3, hi3, hy0, hy1, hy2⟩ := info_parts Try.info3
  obtain ⟨W2, hW2, hb2, hs2, hr2, hp2, hSp⟩ := play_begin (S : Nat) w
  have Hn : Hid (∀ W, Calls Try.prog 16 #[.int .i64 (S : Nat)] W fun e w' => e = .returned (.pointer (some ⟨W.heap.size + 2, 0, none⟩)) ∧ w' = ((W.alloc (.cells #[.int .i64 0, .int .i64 (S : Nat)] 36)).alloc (.map #[] 0)).alloc (.cells #[.int .i64 (S : Nat), .slice (some ⟨W.heap.size, 0, none⟩) 1 1, .map (some (W.heap.size + 1)), .int .i64 0] 53)) := fun W => newSpace_c (S : Nat) W
  have Hp : Hid (∀ sb W, Calls Try.prog 17 #[.pointer (some ⟨sb, 0, none⟩), .int .i64 pol] W fun e w' => e = .returned (.func (fnOf pol) #[] (cbOf pol W.heap.size)) ∧ w' = W.alloc (.cells #[.pointer (some ⟨sb, 0, none⟩)] 44)) := fun sb W => by have := policy_c pol sb W; rw [if_pos ⟨h1, h4⟩, fvOf_eq] at this; exact this
  have HW2 := hide hW2
  have HSp : Hid (SpA W2 (w.heap.size + 1) (w.heap.size + 1 + 2) S (startS S) 0) := hSp S rfl
  have Hptr : Hid (W2.heap[w.heap.size + 1 + 1 + 1 + 1]? = some (.cells #[.pointer (some ⟨w.heap.size + 1 + 2, 0, none⟩)] 44)) := hp2
  have Hr2 := hide hr2
  have Hs2 := hide hs2
  have hev := eql_fn
  have d0 : decide (S < 1) = false := decide_eq_false (by omega)
  have d1 : decide (256 < S) = false := decide_eq_false (by omega)
  have d2 : decide (100 < sc.length) = false := decide_eq_false (by omega)
  have HE : Hid (playE (S : Nat) pol sc.length = 0) := by
    show _ = _
    unfold playE
    rw [if_neg (by omega), if_neg (by omega), if_neg (by omega)]
  clear hSp hp2 hr2 hs2 hW2
  go_enter Try.func9, Try.ntmps9
  go_wp2_with (first
    | (go_at_call 16; go_must (refine (unhide Hn _).mono ?_); go_must (rintro e w5 ⟨he, hw5⟩; subst he; subst hw5))
    | (go_at_call 17; go_must (refine (unhide Hp _ _).mono ?_); go_must (rintro e w6 ⟨he, hw6⟩; subst he; have e6 : w6 = W2 := hw6.trans (unhide HW2).symm; clear hw6 HW2; subst e6; clear Hn Hp)))
  have hwN : w.heap.size + 1 ≤ w6.heap.size := by have := unhide Hs2; omega
  have hPI : PI w6 (w6.alloc (.cells #[.slice none 0 0, .slice none 0 0, .slice none 0 0] 27)) (w.heap.size + 1) (w.heap.size + 1 + 2) (w.heap.size + 1 + 1 + 1 + 1) w6.heap.size S pol sc 0 := by
    have hb : Below w6.heap.size w6 (w6.alloc (.cells #[.slice none 0 0, .slice none 0 0, .slice none 0 0] 27)) := (Below.refl _ _).alloc (Nat.le_refl _) _
    exact ⟨(unhide HSp).below hb, by rw [hb.block _ (by have := unhide Hs2; omega)]; exact unhide Hptr, ⟨_, _, heap_alloc_new _ _, World.ownsRow_nil _ _ _ _, World.ownsRow_nil _ _ _ _, hwN⟩, hb.mono hwN⟩
  have HPI := hide hPI
  have hb6 := hb2
  clear hPI HSp Hptr
  generalize hpbe : w.heap.size + 1 + 1 + 1 + 1 = pb at *
  clear hpbe
  generalize hsbe : w.heap.size + 1 + 2 = sb at *
  clear hsbe
  go_loopw [39] (fun i wr => ∃ k : Nat, k ≤ sc.length ∧ i = .int .i64 k ∧ Hid (PI w6 wr (w.heap.size + 1) sb pb w6.heap.size S pol sc k)) (fun i _ => sc.length - (intOf i).toNat)
  case atStart => exact ⟨0, Nat.zero_le _, rfl, HPI⟩
  case round =>
    obtain ⟨k, hk, rfl, HI⟩ := hrel
    by_cases hlt : k < sc.length
    · obtain ⟨q, m, hx⟩ : ∃ q m, sc[k]? = some (q, m) := ⟨sc[k].1, sc[k].2, List.getElem?_eq_getElem hlt⟩
      have hi := hI _ (List.mem_of_getElem? hx)
      simp only at hi
      have hgx : sc.getD k (0, 0) = (q, m) := by simp [List.getD_eq_getElem?_getD, hx]
      have hO := ok_stK hS1 pol sc k
      have hbw : Below w.heap.size w wr := hb6.trans ((unhide HI).bel.mono (by omega))
      have hNr := (unhide HI).size
      obtain ⟨b, off, rfl, hbB, y0, y1⟩ := (hA.below (hbw.mono hB)).at hx
      have hbr : b < wr.heap.size := by omega
      have hkI : (k : Int) < (sc.length : Int) := by omega
      obtain ⟨W3, hW3⟩ : ∃ W3, wr.alloc (.cells #[.int .i64 q, .int .i64 m] 38) = W3 := ⟨_, rfl⟩
      have hb3 : Below wr.heap.size wr W3 := by rw [← hW3]; exact (Below.refl _ _).alloc (Nat.le_refl _) _
      have hpt3 : W3.heap[pb]? = some (.cells #[.pointer (some ⟨sb, 0, none⟩)] 44) := by rw [hb3.block _ (Array.getElem?_eq_some_iff.1 (unhide HI).ptr).1]; exact (unhide HI).ptr
      have Hc := hide (answer_c pol h1 h4 q m S (w.heap.size + 1) sb k pb (stK S pol sc k) W3 ((unhide HI).sp.below hb3) hO hS2 (by omega) hpt3 hi.2.1 hi.2.2)
      rw [fvOf_eq] at Hc
      have Hst : Hid ((stepS S pol (stK S pol sc k) (q, m)).2.2 = stK S pol sc (k + 1) ∧ (stepS S pol (stK S pol sc k) (q, m)).1 = codeK S pol sc k ∧ (stepS S pol (stK S pol sc k) (q, m)).2.1 = atK S pol sc k) := by
        rw [← hgx]; exact ⟨rfl, rfl, rfl⟩
      rw [(unhide Hst).1, (unhide Hst).2.1, (unhide Hst).2.2] at Hc
      have HCs := hide (codesL_succ S pol sc k)
      have HAs := hide (atsL_succ S pol sc k)
      have HCl := hide (codesL_len S pol sc k)
      have HAl := hide (atsL_len S pol sc k)
      obtain ⟨vc, va, hT⟩ := (unhide HI).told
      have HT3 := hide (hT.below hb3)
      have Hpt3 := hide hpt3
      have hm1 : wr.heap.size < W3.heap.size := by rw [← hW3]; simp
      have g0 : W3.cell? ⟨wr.heap.size, 0, none⟩ = some (.int .i64 q) := by rw [← hW3]; simp [go_sem]
      have g1 : W3.cell? ⟨wr.heap.size, 1, none⟩ = some (.int .i64 m) := by rw [← hW3]; simp [go_sem]
      clear hT hpt3 hx hgx hO Hst
      generalize codeK S pol sc k = ck at *
      generalize atK S pol sc k = ak at *
      go_wp2_with fail
      refine (unhide Hc).mono ?_
      rintro e w5 ⟨rfl, hsp5, hb5, hk5⟩
      have hT5 := (unhide HT3).keepT hk5
      have hpt5 := hk5 pb _ 44 (unhide Hpt3) (by decide) (by decide)
      obtain ⟨ac, cc, hvc⟩ := ownsRow_slice hT5.rc
      obtain ⟨aa, ca, hva⟩ := ownsRow_slice hT5.ra
      rw [unhide HCl] at hvc
      rw [unhide HAl] at hva
      subst hvc hva
      have t0 := hT5.c0
      have tf0 := hT5.fr 0
      have tlt := hT5.lt
      have hN5 := hsp5.le
      have hrc := hT5.rc
      rw [unhide HCl] at hrc
      have HT5 := hide hT5
      have HS5 := hide hsp5
      have HP5 := hide hpt5
      have Hb5 := hide ((unhide HI).bel.trans ((hb3.mono hNr).trans hb5))
      clear hT5 hsp5 hpt5 Hc hW3 g0 g1 hb5 hk5 hm1
      go_wp2_with (first
        | (at_builtin; refine wpList_append_own_at _ rfl _ _ 23 rfl (w.heap.size + 1) 28 i28 _ 1 8 Try.underlying23 hi28 hx0 hx1 hx2 rfl (by decide) _ _ _ rfl (hrc.alloc _) ⟨w5.heap.size, 0, none⟩ 1 1 [.int .i64 ck] rfl rfl (cell_one_at _ _ _ _ rfl) (by simp [Value.oneCell']) (by simp only [maxLen]; omega) (by omega) (by simp; omega) ?_; go_must (intro v7 w7 hrow7 hg7 _ hat7; obtain ⟨g7, c7, hv7⟩ := ownsRow_succ hrow7; subst hv7; have hb55 : Below w5.heap.size w5 (w5.alloc (.cells #[.int .i64 ck] 28)) := (Below.refl _ _).alloc (Nat.le_refl _) _; obtain ⟨hbx7, hT7, hS7⟩ := ((unhide HT5).below hb55).pushC (x := ck) ((unhide HS5).below hb55) (by rw [unhide HCl]; exact hrow7) hg7; have hq0 := cell27_0 hbx7; have hq2 := cell27_1 hbx7; have hqf := frozen_of_row w7 _ 0 _ 27 hbx7; have hq1 : w6.heap.size < w7.heap.size := (Array.getElem?_eq_some_iff.1 hbx7).1; have hra := hT7.ra; rw [unhide HAl] at hra; have Hrc5 := hide hrc; have Hpt7 : Hid (w7.heap[pb]? = some (.cells #[.pointer (some ⟨sb, 0, none⟩)] 44)) := ptr_kept ((hb55.block pb (Array.getElem?_eq_some_iff.1 (unhide HP5)).1).trans (unhide HP5)) (hrc.alloc _) (by decide) hg7; have Hg7 := hide hg7; have hs7 := hg7.size; have Hbx7 := hide hbx7; have HT7 := hide hT7; have HS7 := hide hS7; clear hT7 hS7 hrow7 hg7 hbx7 hrc hat7))
        | (at_builtin; refine wpList_append_own_at _ rfl _ _ 24 rfl (w.heap.size + 1) 3 i3 _ 1 8 Try.underlying24 hi3 hy0 hy1 hy2 rfl (by decide) _ _ _ rfl (hra.alloc _) ⟨w7.heap.size, 0, none⟩ 1 1 [.int .i64 (ak : Nat)] rfl rfl (cell_one_at _ _ _ _ (by simp [World.setCell])) (by simp [Value.oneCell']) (by simp only [maxLen]; omega) (by omega) (by simp [World.setCell] at hs7 ⊢; omega) ?_; go_must (intro v9 w9 hrow9 hg9 _ hat9; obtain ⟨g9, c9, hv9⟩ := ownsRow_succ hrow9; subst hv9; have hb88 := (Below.refl (w7.setCell ⟨w6.heap.size, 0, none⟩ (.slice (some ⟨g7, 0, none⟩) (k + 1) c7)).heap.size (w7.setCell ⟨w6.heap.size, 0, none⟩ (.slice (some ⟨g7, 0, none⟩) (k + 1) c7))).alloc (Nat.le_refl _) (.cells #[.int .i64 (ak : Nat)] 3); obtain ⟨hbx9, hT9, hS9⟩ := ((unhide HT7).below hb88).pushA (x := ((ak : Nat) : Int)) ((unhide HS7).below hb88) (by rw [unhide HAl]; exact hrow9) hg9; have hu1 := cell27_1 hbx9; have huf := frozen_of_row w9 _ 1 _ 27 hbx9; have hu2 : w6.heap.size < w9.heap.size := (Array.getElem?_eq_some_iff.1 hbx9).1; have Hpt8 : Hid ((w7.setCell ⟨w6.heap.size, 0, none⟩ (.slice (some ⟨g7, 0, none⟩) (k + 1) c7)).heap[pb]? = some (.cells #[.pointer (some ⟨sb, 0, none⟩)] 44)) := box_kept (unhide Hpt7) (unhide Hbx7) _ _; have Hpt9 : Hid (w9.heap[pb]? = some (.cells #[.pointer (some ⟨sb, 0, none⟩)] 44)) := ptr_kept ((hb88.block pb (Array.getElem?_eq_some_iff.1 (unhide Hpt8)).1).trans (unhide Hpt8)) (hra.alloc _) (by decide) hg9; have Hfin : Hid (PI w6 (w9.setCell ⟨w6.heap.size, 1, none⟩ (.slice (some ⟨g9, 0, none⟩) (k + 1) c9)) (w.heap.size + 1) sb pb w6.heap.size S pol sc (k + 1)) := ⟨hS9, box_kept (unhide Hpt9) hbx9 _ _, ⟨_, _, by rw [unhide HCs, unhide HAs]; exact hT9⟩, ((((((unhide Hb5).alloc hN5 _).grown (unhide Hg7) (by simp; omega) (fun x e => ((unhide Hrc5).lt x e).1)).setCell (p := ⟨w6.heap.size, 0, none⟩) hwN _).alloc (by simp [World.setCell] at hs7 ⊢; omega) _).grown hg9 (by simp [World.setCell] at hs7 ⊢; omega) (fun x e => (hra.lt x e).1)).setCell (p := ⟨w6.heap.size, 1, none⟩) hwN _⟩; clear hT9 hS9 hrow9 hg9 hbx9 hat9 hb88)))
      go_roundw
      case rel => exact ⟨k + 1, by omega, by go_num, Hfin⟩
      case measure => simp [intOf]; omega
    · obtain rfl : k = sc.length := by omega
      obtain ⟨⟨mb, g, cap, M, hP, hTk⟩, _, ⟨vc, va, hT⟩, hbel⟩ := unhide HI
      have hrb : wr.heap[w.heap.size]? = some (.cells #[.slice none 0 0, .slice none 0 0, .slice none 0 0] 27) := by rw [hbel.block _ (by omega)]; exact unhide Hr2
      have hlb := ok_len (ok_stK hS1 pol sc sc.length)
      obtain ⟨ac, cc, hvc⟩ := ownsRow_slice hT.rc
      obtain ⟨aa, ca, hva⟩ := ownsRow_slice hT.ra
      subst hvc hva
      have HIs : Hid (PlIs (S : Nat) pol sc (codesL S pol sc sc.length) (atsL S pol sc sc.length) (stK S pol sc sc.length).bl) := ⟨fun h => absurd (unhide HE) h, fun _ => ⟨rfl, rfl, rfl⟩⟩
      have HCl := hide (codesL_len S pol sc sc.length)
      have HAl := hide (atsL_len S pol sc sc.length)
      generalize codesL S pol sc sc.length = C at *
      generalize atsL S pol sc sc.length = A at *
      generalize (stK S pol sc sc.length).bl = F at *
      have Hfin : Hid (∀ W, W = (((wr.setCell ⟨w6.heap.size, 2, none⟩ (.slice (some ⟨g, 0, none⟩) F.length cap)).setCell ⟨w.heap.size, 0, none⟩ (.slice ac C.length cc)).setCell ⟨w.heap.size, 1, none⟩ (.slice aa A.length ca)).setCell ⟨w.heap.size, 2, none⟩ (.slice (some ⟨g, 0, none⟩) F.length cap) → PlRes (S : Nat) pol sc w.heap.size (.returned (.tuple #[.agg #[.slice ac C.length cc, .slice aa A.length ca, .slice (some ⟨g, 0, none⟩) F.length cap], .int .i64 0])) W ∧ Below w.heap.size w W) := by
        intro W hW
        have hw6 : w.heap.size ≤ w6.heap.size := by omega
        refine ⟨?_, by rw [hW]; exact ((((hb6.trans (hbel.mono (by omega))).setCell (p := ⟨w6.heap.size, 2, none⟩) hw6 _).setCell (p := ⟨w.heap.size, 0, none⟩) (Nat.le_refl _) _).setCell (p := ⟨w.heap.size, 1, none⟩) (Nat.le_refl _) _).setCell (p := ⟨w.heap.size, 2, none⟩) (Nat.le_refl _) _⟩
        have r1 := row_end hT.rc ⟨_, hT.box⟩ ⟨_, hrb⟩ (by decide) (.slice (some ⟨g, 0, none⟩) F.length cap) (.slice ac C.length cc) (.slice aa A.length ca) (.slice (some ⟨g, 0, none⟩) F.length cap)
        have r2 := row_end hT.ra ⟨_, hT.box⟩ ⟨_, hrb⟩ (by decide) (.slice (some ⟨g, 0, none⟩) F.length cap) (.slice ac C.length cc) (.slice aa A.length ca) (.slice (some ⟨g, 0, none⟩) F.length cap)
        have r3 := row_end hP.row ⟨_, hT.box⟩ ⟨_, hrb⟩ (by decide) (.slice (some ⟨g, 0, none⟩) F.length cap) (.slice ac C.length cc) (.slice aa A.length ca) (.slice (some ⟨g, 0, none⟩) F.length cap)
        rw [← hW] at r1 r2 r3
        have hcl := unhide HCl
        have hal := unhide HAl
        obtain ⟨a1, c1, e1, n1, _⟩ := nums_of_owns r1 (by omega)
        obtain ⟨a2, c2, e2, n2, l2⟩ := nums_of_owns r2 (by omega)
        have n3 := blks_of_owns r3 (by omega)
        injection e1 with e1a _ e1c
        injection e2 with e2a _ e2c
        subst e1a e1c e2a e2c
        exact ⟨ac, cc, aa, ca, some ⟨g, 0, none⟩, cap, C, A, F, by rw [unhide HE], n1, n2, n3, HIs, l2, fun x hx => (by
          rcases hx with hx | hx | hx
          · have := (r1.lt x.block (by rw [hx]; rfl)).1; omega
          · have := (r2.lt x.block (by rw [hx]; rfl)).1; omega
          · have := (r3.lt x.block (by rw [hx]; rfl)).1; omega)⟩
      have q1 := hP.c1
      have hlsb := hP.lt
      have t0 := hT.c0
      have t1 := hT.c1
      have t2 := hT.c2
      have tf2 := hT.fr 2
      have tlt := hT.lt
      have b0 := cell27_0 hrb
      have b1 := cell27_1 hrb
      have b2 := cell27_2 hrb
      have bf0 := frozen_of_row wr _ 0 _ 27 hrb
      have bf1 := frozen_of_row wr _ 1 _ 27 hrb
      have bf2 := frozen_of_row wr _ 2 _ 27 hrb
      have hne : w.heap.size ≠ w6.heap.size := by omega
      have hne' : ¬ w6.heap.size = w.heap.size := by omega
      have hlw : w.heap.size < wr.heap.size := by omega
      have hsbt : Hid (sb ≠ w6.heap.size) := by
        rintro rfl
        have := hP.box.symm.trans hT.box
        injection this with this
        injection this with _ this
        exact absurd this (by decide)
      clear hP hT hTk hrb hbel
      go_wp2
      refine bodyPost_ret (v := .tuple #[.agg #[.slice ac C.length cc, .slice aa A.length ca, .slice (some ⟨g, 0, none⟩) F.length cap], .int .i64 0]) (by simp [results, Try.results9, go_sem, b0, b1, b2, hne, hne']) rfl ?_
      exact unhide Hfin _ rfl

end Go.Proofs.Ytgbbcfngncofgaa

/- Play whole; a script that came in, opened. -/
namespace Go.Proofs.Ytgbbcfngncofgaa
set_option linter.unusedSimpArgs false
set_option linter.unusedVariables false
open Go.RowKit Go.Joins Go.Deep Go.ChangeShapes Go.WideShapes

theorem play_c (z pol : Int) (a : Option Addr) (c : Nat) (sc : List (Int × Int)) (B : Nat) (w : World) (hA : Asks B w a sc) (hB : B ≤ w.heap.size) (hI : I64s sc) :
    Calls Try.prog 9 #[.int .i64 z, .int .i64 pol, .slice a sc.length c] w fun e w' => PlRes z pol sc w.heap.size e w' ∧ Below w.heap.size w w' := by
  by_cases hE : playE z pol sc.length = 0
  · unfold playE at hE
    split at hE
    · cases hE
    · split at hE
      · cases hE
      · split at hE
        · cases hE
        · obtain ⟨S, rfl⟩ : ∃ S : Nat, z = (S : Int) := ⟨z.toNat, by omega⟩
          exact play_good S pol a c sc B w (by omega) (by omega) (by omega) (by omega) (by omega) hA hB hI
  · exact play_bad z pol a c sc w hA.1 hE

section
variable {H : Type} {enc : TypeId × Value → H} {w : World} {base : Nat} {spare : Nat → Bool} {held : Bool}

theorem addr_plain {a : Addr} {i : Nat} {v : Value} (h : w.cell? (a.add i) = some v) (h0 : ∃ u, w.cell? a = some u) : ∃ b off, a = ⟨b, off, none⟩ ∧ w.cell? ⟨b, off + i, none⟩ = some v := by
  obtain ⟨b, off, spot⟩ := a
  obtain ⟨u, hu⟩ := h0
  have hspot : spot = none := by simpa using World.cell?_spot hu
  subst hspot
  exact ⟨b, off, rfl, by rw [← Go.WideShapes.add_plain]; exact h⟩

theorem bounds_i64 {n : Int} (h : (Lit.int .i64 n).wf = true) : -9223372036854775808 ≤ n ∧ n ≤ 9223372036854775807 := by
  simp [Lit.wf, IntKind.min, IntKind.max, IntKind.signed, IntKind.bits] at h
  omega

/-- One ask, out of its two cells. -/
theorem ask_of_trod {fuel : Nat} {cs : List Value} {x : DataW H × List MemPlace} (h : DataW.trod enc Try.prog w base spare held fuel 38 cs = some x) (hl : cs.length = 2) : ∃ r n : Int, cs = [.int .i64 r, .int .i64 n] ∧ (-9223372036854775808 ≤ r ∧ r ≤ 9223372036854775807) ∧ (-9223372036854775808 ≤ n ∧ n ≤ 9223372036854775807) := by
  obtain ⟨y0, y1, n, _, _, h0, h1⟩ := trod_struct2 Try.underlying38 h
  have e3 : Try.prog.cellsOf 3 = 1 := by kernel_rfl
  match cs, hl with
  | [c0, c1], _ =>
    simp only [e3, List.drop_zero, List.take_succ_cons, List.take_zero, List.drop_succ_cons] at h0 h1
    obtain ⟨r, hr, _, w0⟩ := DataW.trod_int Try.underlying3 h0
    obtain ⟨m, hm, _, w1⟩ := DataW.trod_int Try.underlying3 h1
    simp at hr hm
    exact ⟨r, m, by rw [hr, hm], bounds_i64 w0, bounds_i64 w1⟩

/-- A slice of asks that came in. -/
theorem asks_of_trod {fuel : Nat} {cs : List Value} {x : DataW H × List MemPlace} (h : DataW.trod enc Try.prog w base spare held fuel 22 cs = some x) : ∃ a cap l, cs = [.slice a l.length cap] ∧ Asks w.heap.size w a l ∧ I64s l ∧ l.length ≤ cap ∧ cap ≤ 9223372036854775807 := by
  rcases open_slice Try.underlying22 h with ⟨rfl, _⟩ | ⟨a, len, cap, m, n, D, Pl, rfl, hb, hl, hm, hmm, _, hx⟩
  · exact ⟨none, 0, [], rfl, ⟨by simp, fun h => absurd rfl h⟩, fun x hx => (by cases hx), by simp, by omega⟩
  · have e38 : Try.prog.cellsOf 38 = 2 := by kernel_rfl
    rw [e38] at hx
    have hle : len ≤ m := by rw [hmm]; split <;> omega
    have hex : ∀ i, i < len → ∃ v : Int × Int, w.cell? (a.add (i * 2)) = some (.int .i64 v.1) ∧ w.cell? ((a.add (i * 2)).add 1) = some (.int .i64 v.2) ∧ (-9223372036854775808 ≤ v.1 ∧ v.1 ≤ 9223372036854775807) ∧ (-9223372036854775808 ≤ v.2 ∧ v.2 ≤ 9223372036854775807) := by
      intro i hi
      obtain ⟨cs', h1, h2⟩ := hx i (by omega)
      obtain ⟨_, hlen, hc⟩ := World.cells?_some h1
      obtain ⟨r, n, rfl, b1, b2⟩ := ask_of_trod h2 hlen
      exact ⟨(r, n), by simpa [Addr.add] using hc 0 (by omega), by simpa using hc 1 (by omega), b1, b2⟩
    obtain ⟨f, hf⟩ := choose_lt (α := Int × Int) (p := fun i v => w.cell? (a.add (i * 2)) = some (.int .i64 v.1) ∧ w.cell? ((a.add (i * 2)).add 1) = some (.int .i64 v.2) ∧ (-9223372036854775808 ≤ v.1 ∧ v.1 ≤ 9223372036854775807) ∧ (-9223372036854775808 ≤ v.2 ∧ v.2 ≤ 9223372036854775807)) hex
    refine ⟨some a, cap, (List.range len).map f, by simp, ⟨by simp only [List.length_map, List.length_range]; simp only [maxLen] at hm; omega, fun hne => ?_⟩, ?_, by simpa using hl, by simp only [maxLen] at hm; omega⟩
    · have hpos : 0 < len := by
        rcases Nat.eq_zero_or_pos len with h0 | h0
        · subst h0; simp at hne
        · exact h0
      have h00 := (hf 0 hpos).1
      obtain ⟨b, off, rfl, _⟩ := addr_plain (a := a) (i := 0) (by simpa using h00) ⟨_, by simpa [Addr.add] using h00⟩
      have hplain : ∀ i, (⟨b, off, none⟩ : Addr).add i = ⟨b, off + i, none⟩ := fun i => Go.WideShapes.add_plain _ _ _
      refine ⟨b, off, rfl, World.block_lt_of_cell? w ⟨b, off + 0 * 2, none⟩ (by rw [← hplain]; exact h00), fun k v hk => ?_⟩
      have hkl : k < len := by
        have := (List.getElem?_eq_some_iff.1 hk).1
        simpa using this
      have hv : f k = v := by simpa [hkl] using hk
      have := hf k hkl
      rw [hv, hplain, Go.WideShapes.add_plain] at this
      exact ⟨this.1, this.2.1⟩
    · intro x hx
      obtain ⟨i, hi, rfl⟩ := List.mem_map.1 hx
      exact (hf i (List.mem_range.1 hi)).2.2

theorem asks_of_Trod {r : Reach} {b0 : Nat} {v : Value} {d : DataW H} {p : List MemPlace} (hv : Value.okWide Try.prog w r b0 22 v) (h : DataW.Trod enc Try.prog w base spare held 22 v d p) :
    ∃ a cap l, v = .slice a l.length cap ∧ Asks w.heap.size w a l ∧ I64s l ∧ l.length ≤ cap ∧ cap ≤ 9223372036854775807 := by
  obtain ⟨a0, len, cap, rfl⟩ := okWide_slice Try.underlying22 hv
  obtain ⟨fuel, hf⟩ := h
  obtain ⟨a, c, l, hcs, hI⟩ := asks_of_trod hf
  simp [Value.cells] at hcs
  obtain ⟨rfl, rfl, rfl⟩ := hcs
  exact ⟨_, _, l, rfl, hI⟩

end
end Go.Proofs.Ytgbbcfngncofgaa

/- Walks: FreeJoins. -/
namespace Go.Proofs.Ytgbbcfngncofgaa
set_option linter.unusedSimpArgs false
set_option linter.unusedVariables false
open Go.RowKit

theorem playE_ok {z pol : Int} {n : Nat} (h : playE z pol n = 0) : 1 ≤ z ∧ z ≤ 256 ∧ 1 ≤ pol ∧ pol ≤ 4 ∧ n ≤ 100 := by
  unfold playE at h
  split at h
  · cases h
  · split at h
    · cases h
    · split at h
      · cases h
      · omega

/-- What is told of a play that may be. -/
theorem PlIs.good {z pol : Int} {sc : List (Int × Int)} {C A : List Int} {F : List (Nat × Nat)} (h : PlIs z pol sc C A F) (hE : playE z pol sc.length = 0) :
    C.length = sc.length ∧ A.length = sc.length ∧ Apart z.toNat F ∧ F.length ≤ 256 ∧ ∀ x ∈ F, x.1 + x.2 ≤ 256 := by
  obtain ⟨h1, h2, h3, h4, h5⟩ := playE_ok hE
  obtain ⟨rfl, rfl, rfl⟩ := h.2 hE
  have hO := ok_stK (S := z.toNat) (by omega) pol sc sc.length
  refine ⟨codesL_len _ _ _ _, atsL_len _ _ _ _, hO.ap, by have := ok_len hO; omega, fun x hx => by have := (hO.ap.1 x hx).2; omega⟩

theorem apart_next {S : Nat} {l : List (Nat × Nat)} (h : Apart S l) {i : Nat} {x y : Nat × Nat} (hx : l[i]? = some x) (hy : l[i + 1]? = some y) : x.1 + x.2 < y.1 := by
  have h1 := (List.getElem?_eq_some_iff.1 hx).1
  have h2 := (List.getElem?_eq_some_iff.1 hy).1
  have := List.pairwise_iff_getElem.1 h.2 i (i + 1) h1 h2 (by omega)
  rwa [(List.getElem?_eq_some_iff.1 hx).2, (List.getElem?_eq_some_iff.1 hy).2] at this

set_option maxRecDepth 100000 in
set_option maxHeartbeats 2000000 in
theorem freeJoins_c (z pol : Int) (a : Option Addr) (c : Nat) (sc : List (Int × Int)) (w : World) (hA : Asks w.heap.size w a sc) (hI : I64s sc) :
    Calls Try.prog 5 #[.int .i64 z, .int .i64 pol, .slice a sc.length c] w fun e w' => e = .returned (.bool true) ∧ Below w.heap.size w w' := by
  have Hc := hide (play_c z pol a c sc w.heap.size w hA (Nat.le_refl _) hI)
  have hsl := hA.1
  clear hA
  go_enter Try.func5, Try.ntmps5
  go_wp2_with fail
  refine (unhide Hc).mono ?_
  rintro e w2 ⟨hR, hb2⟩
  obtain ⟨ac, cc, aa, ca, af, cf, C, A, F, rfl, nc, na, nf, hIs, _⟩ := hR
  have hs2 := hb2.size
  obtain ⟨W3, hW3⟩ : ∃ W3, w2.alloc (.cells #[.slice ac C.length cc, .slice aa A.length ca, .slice af F.length cf] 27) = W3 := ⟨_, rfl⟩
  have hb3 : Below w2.heap.size w2 W3 := by rw [← hW3]; exact (Below.refl _ _).alloc (Nat.le_refl _) _
  have hs3 : w2.heap.size < W3.heap.size := by rw [← hW3]; simp
  have t0 : W3.cell? ⟨w2.heap.size, 0, none⟩ = some (.slice ac C.length cc) := by rw [← hW3]; simp [go_sem]
  have t2 : W3.cell? ⟨w2.heap.size, 2, none⟩ = some (.slice af F.length cf) := by rw [← hW3]; simp [go_sem]
  have Hf := hide nf
  have hbw : Below w.heap.size w W3 := hb2.trans (hb3.mono hs2)
  clear nc na nf Hc
  by_cases hE : playE z pol sc.length = 0
  · obtain ⟨g1, g2, g3, g4, g5⟩ := (unhide hIs).good hE
    have Hg1 := hide g1
    have G3 := hide g3
    have G5 := hide g5
    rw [hE]
    have d1 : ((C.length : Int) == (sc.length : Int)) = true := by simp; omega
    clear hE g1 g2 g3 g5 hIs
    go_wp2
    go_loopw [9] (fun i wr => ∃ j : Nat, j ≤ F.length ∧ i = .int .i64 ((j : Int) + 1) ∧ Below w2.heap.size w2 wr ∧ wr.cell? ⟨w2.heap.size, 0, none⟩ = some (.slice ac C.length cc) ∧ wr.cell? ⟨w2.heap.size, 2, none⟩ = some (.slice af F.length cf)) (fun i _ => F.length + 1 - (intOf i).toNat)
    case atStart => exact ⟨0, Nat.zero_le _, rfl, hb3, t0, t2⟩
    case round =>
      clear t0 t2
      obtain ⟨j, hj, rfl, hbr, t0, t2⟩ := hrel
      have hsr : w2.heap.size < wr.heap.size := World.block_lt_of_cell? wr _ t0
      by_cases hlt : j + 1 < F.length
      · obtain ⟨p, m, hx⟩ : ∃ p m, F[j]? = some (p, m) := ⟨(F[j]'(by omega)).1, (F[j]'(by omega)).2, List.getElem?_eq_getElem (by omega)⟩
        obtain ⟨p', m', hy⟩ : ∃ p' m', F[j + 1]? = some (p', m') := ⟨F[j + 1].1, F[j + 1].2, List.getElem?_eq_getElem hlt⟩
        have hap := apart_next (unhide G3) hx hy
        have hb5 := unhide G5 _ (List.mem_of_getElem? hx)
        simp only at hap hb5
        obtain ⟨b, off, rfl, hbB, x0, x1⟩ := ((unhide Hf).below hbr).at hx
        obtain ⟨b', off', hab, _, y0, y1⟩ := ((unhide Hf).below hbr).at hy
        injection hab with hab
        injection hab with hab1 hab2
        subst hab1 hab2
        have i1 : (j : Int) < (F.length : Int) := by omega
        have i2 : (j : Int) + 1 < (F.length : Int) := by omega
        have i3 : 0 ≤ (j : Int) + 1 := by omega
        have i4 : ((j : Int) + 1).toNat = j + 1 := by omega
        have w1 : IntKind.i64.wrap ((p : Int) + (m : Int)) = (p : Int) + (m : Int) := by rw [IntKind.wrap_i64]; omega
        have d2 : decide ((p' : Int) ≤ (p : Int) + (m : Int)) = false := decide_eq_false (by omega)
        have d3 : decide ((p : Int) + (m : Int) ≥ (p' : Int)) = false := decide_eq_false (by omega)
        have hbl : b < wr.heap.size := by omega
        clear hx hy y1
        go_wp2
        go_quiet (fail)
        have hbn := below_drewN hbr nq
        have t0' : (wr.drewN nq).cell? ⟨w2.heap.size, 0, none⟩ = some (.slice ac C.length cc) := t0
        have t2' : (wr.drewN nq).cell? ⟨w2.heap.size, 2, none⟩ = some (.slice (some ⟨b, off, none⟩) F.length cf) := t2
        clear t0 t2 x0 x1 y0 hsr hbl
        generalize wr.drewN nq = wq at *
        go_wp2
        go_roundw
        case rel => exact ⟨j + 1, by omega, by go_num, hbn, t0', t2'⟩
        case measure => simp [intOf]; omega
      · have d2 : decide ((j : Int) + 1 < (F.length : Int)) = false := decide_eq_false (by omega)
        go_wp2
        go_ret
        exact ⟨rfl, hb2.trans (hbr.mono hs2)⟩
  · obtain ⟨_, _, hF⟩ := (unhide hIs).1 hE
    subst hF
    clear hIs
    generalize playE z pol sc.length = E at *
    have d0 : (E != 0) = true := by simpa using hE
    simp only [List.length_nil] at t2
    clear hE
    go_wp2
    go_ret
    exact ⟨rfl, hb2.alloc hs2 _⟩

end Go.Proofs.Ytgbbcfngncofgaa
