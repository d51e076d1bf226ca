/- A rule for a region that draws its order and writes: the operations that only read may come at any time, those that write stand in a chain. -/
import Derived.Test.YtohofkfajmeohaaProg
import Derived.Test.YtohofkfajmeohaaMem
import Derived.Orders
import Derived.Maps.AppendAt
namespace Go.Proofs.Ytohofkfajmeohaa
set_option linter.unusedSimpArgs false
set_option linter.unusedVariables false
open Go.RowKit

section
variable {P : Program} {md : Region.Mode} {ops : Array Oper} {Q : Exit → Act → World → Prop}

theorem getD_both {l : Array Bool} {i : Nat} (hi : i < l.size) (h : l.getD i true = true) : l.getD i false = true := by
  simp [hi] at h ⊢; exact h

/-- Each operation waits for earlier ones alone: then, where none may come up, all are done. -/
theorem ready_none {listed : Array Bool} (hord : ∀ (i : Nat) (o : Oper), ops[i]? = some o → ∀ e ∈ o.after, e.on < i) (hsz : listed.size = ops.size) (h : Region.ready md ops listed = []) : ∀ i, i < ops.size → listed.getD i false = true := by
  intro i
  induction i using Nat.strongRecOn with
  | ind i ih =>
    intro hi
    refine getD_both (by omega) ?_
    cases hl : listed.getD i true with
    | true => rfl
    | false =>
      exfalso
      have hm : i ∈ Region.ready md ops listed := mem_ready.2 ⟨hl, ops[i], Array.getElem?_eq_getElem hi, fun e he _ => by
        have h1 := hord i _ (Array.getElem?_eq_getElem hi) e he
        exact ih e.on h1 (by omega)⟩
      rw [h] at hm
      cases hm

theorem count_less {listed : Array Bool} {i : Nat} (h : listed.getD i true = false) : (listed.setIfInBounds i true).toList.count false + 1 = listed.toList.count false := by
  have hi : i < listed.size := by
    rcases Nat.lt_or_ge i listed.size with h1 | h1
    · exact h1
    · simp [Array.getElem?_eq_none h1] at h
  have hv : listed[i] = false := by simpa [hi] using h
  have hpos : 0 < listed.toList.count false := List.count_pos_iff.2 (by rw [← hv]; simp)
  rw [Array.toList_setIfInBounds, List.count_set (by simpa using hi)]
  rw [if_pos (by simp [hv]), if_neg (by decide)]
  omega

theorem wpAny_inv (I : Array Bool → Act → World → Prop) (hsz : ∀ listed a w, I listed a w → listed.size = ops.size)
    (hstep : ∀ listed a w i, I listed a w → i ∈ Region.ready md ops listed → wpOp P ops Q i (I (listed.setIfInBounds i true)) a w)
    (hdone : ∀ listed a w, I listed a w → Region.ready md ops listed = [] → Q .normal a w) :
    ∀ (fuel : Nat) (listed : Array Bool) (a : Act) (w : World), listed.toList.count false ≤ fuel → I listed a w → wpAny P md ops Q fuel listed a w
  | 0, listed, a, w, hc, hI => by
    have hr : Region.ready md ops listed = [] := by
      cases hr : Region.ready md ops listed with
      | nil => rfl
      | cons x xs =>
        have hm : x ∈ Region.ready md ops listed := by rw [hr]; simp
        have := count_less (mem_ready.1 hm).1
        omega
    exact ⟨hr, hdone _ _ _ hI hr⟩
  | fuel + 1, listed, a, w, hc, hI =>
    ⟨hdone _ _ _ hI, fun i hi => wpOp_mono (fun a' w' h => wpAny_inv I hsz hstep hdone fuel _ a' w' (by have := count_less (mem_ready.1 hi).1; omega) h) (hstep _ _ _ _ hI hi)⟩

theorem wp_region_inv {id : Nat} {a : Act} {w : World} (hm : P.follows .mixedOrders = true) (I : Array Bool → Act → World → Prop) (hsz : ∀ listed a w, I listed a w → listed.size = ops.size)
    (h0 : I (Array.replicate ops.size false) a w.drew)
    (hstep : ∀ listed a w i, I listed a w → i ∈ Region.ready .any ops listed → wpOp P ops Q i (I (listed.setIfInBounds i true)) a w)
    (hdone : ∀ listed a w, I listed a w → Region.ready .any ops listed = [] → Q .normal a w) : (Code.region id ops true).wp P Q a w :=
  wp_region_any hm (wpAny_inv I hsz hstep hdone _ _ _ _ (by simp) h0)

/-- One operation, wanted, by its own step. -/
theorem wpOp_of {i : Nat} {o : Oper} {K : Act → World → Prop} {a : Act} {w : World} (ho : ops[i]? = some o) (hg : o.guard = none) (h : o.wp P a w K Q) : wpOp P ops Q i K a w := by
  unfold wpOp
  simp only [ho]
  rw [if_pos (by simp [Region.wanted, hg])]
  exact .inl h
end

/-- A frame that is another one but for some slots. -/
structure Agr (ds : List Nat) (a0 a : Act) : Prop where
  size : a.tmps.size = a0.tmps.size
  defers : a.defers = a0.defers
  same : ∀ k, k ∉ ds → a.tmps[k]? = a0.tmps[k]?

theorem Agr.refl (ds : List Nat) (a : Act) : Agr ds a a := ⟨rfl, rfl, fun _ _ => rfl⟩

theorem Agr.put {ds : List Nat} {a0 a : Act} (h : Agr ds a0 a) {d : Option Nat} (hd : ∀ x, d = some x → x ∈ ds) (v : Value) : Agr ds a0 (a.put d v) := by
  cases d with
  | none => exact h
  | some d =>
    refine ⟨by simp [Act.put, h.size], h.defers, fun k hk => ?_⟩
    have hne : d ≠ k := fun e => hk (e ▸ hd d rfl)
    simp only [Act.put, Array.getElem?_setIfInBounds_ne hne]
    exact h.same k hk

theorem Agr.tm {ds : List Nat} {a0 a : Act} (h : Agr ds a0 a) {k : Nat} (hk : k ∉ ds) : a.tmps[k]?.getD undef = a0.tmps[k]?.getD undef := by rw [h.same k hk]

theorem agr_ext {ds : List Nat} {a0 a b : Act} (ha : Agr ds a0 a) (hb : Agr ds a0 b) (h : ∀ d ∈ ds, a.tmps[d]?.getD undef = b.tmps[d]?.getD undef) : a = b := by
  obtain ⟨at', ad⟩ := a
  obtain ⟨bt, bd⟩ := b
  have e2 : ad = bd := (ha.defers).trans hb.defers.symm
  have hsz : at'.size = bt.size := (ha.size).trans hb.size.symm
  have e1 : at' = bt := by
    apply Array.ext'
    apply List.ext_getElem?
    intro k
    simp only [Array.getElem?_toList]
    by_cases hk : k ∈ ds
    · have := h k hk
      simp only at this
      by_cases hl : k < at'.size
      · rw [Array.getElem?_eq_getElem hl, Array.getElem?_eq_getElem (by omega)] at this ⊢
        simpa using this
      · rw [Array.getElem?_eq_none (by omega), Array.getElem?_eq_none (by omega)]
    · exact (ha.same k hk).trans (hb.same k hk).symm
  rw [e1, e2]

/-- The slot of an operation. -/
def dstAt (l : List Oper) (k : Nat) : Option Nat := (l[k]?).bind Oper.dst

/-- What an operation hands back: those of the chain what is told, the others what is known. -/
def valAt (T : List Nat) (val : Nat → Value) (vs : List Value) (k : Nat) : Value := match T.idxOf? k with
  | some j => vs.getD j undef
  | none => val k

def SlotOk (l : List Oper) (T : List Nat) (val : Nat → Value) (vs : List Value) (a : Act) (k : Nat) : Prop := ∀ d, dstAt l k = some d → a.tmps[d]?.getD undef = valAt T val vs k

/-- The frame behind them all. -/
def endAct (l : List Oper) (T : List Nat) (val : Nat → Value) (vs : List Value) (a0 : Act) : Nat → Act
  | 0 => a0
  | k + 1 => (endAct l T val vs a0 k).put (dstAt l k) (valAt T val vs k)

structure Laid (l : List Oper) (T : List Nat) (a0 : Act) : Prop where
  nd : ∀ i j d, dstAt l i = some d → dstAt l j = some d → i = j
  lt : ∀ i d, dstAt l i = some d → d < a0.tmps.size
  gd : ∀ o ∈ l, o.guard = none
  ord : ∀ (i : Nat) (o : Oper), l[i]? = some o → ∀ e ∈ o.after, e.on < i
  tnd : T.Nodup
  tlt : ∀ k ∈ T, k < l.length
  chain : ∀ j k k', T[j]? = some k → T[j + 1]? = some k' → ∃ (o : Oper) (e : Edge), l[k']? = some o ∧ e ∈ o.after ∧ Region.binds .any e = true ∧ e.on = k

theorem tm_put_same {a : Act} {d : Nat} (h : d < a.tmps.size) (v : Value) : (a.put (some d) v).tmps[d]?.getD undef = v := by
  simp [Act.put, h]
theorem tm_put_ne {a : Act} {d k : Nat} (h : d ≠ k) (v : Value) : (a.put (some d) v).tmps[k]?.getD undef = a.tmps[k]?.getD undef := by
  simp only [Act.put, Array.getElem?_setIfInBounds_ne h]

theorem size_put' (a : Act) (d : Option Nat) (v : Value) : (a.put d v).tmps.size = a.tmps.size := by cases d <;> simp [Act.put]

def dsOf (l : List Oper) : List Nat := l.filterMap Oper.dst

theorem mem_dsOf {l : List Oper} {d : Nat} : d ∈ dsOf l ↔ ∃ k, dstAt l k = some d := by
  unfold dsOf dstAt
  rw [List.mem_filterMap]
  constructor
  · rintro ⟨o, ho, hd⟩
    obtain ⟨k, hk⟩ := List.getElem?_of_mem ho
    exact ⟨k, by rw [hk]; exact hd⟩
  · rintro ⟨k, hk⟩
    cases ho : l[k]? with
    | none => rw [ho] at hk; cases hk
    | some o => rw [ho] at hk; exact ⟨o, List.mem_of_getElem? ho, hk⟩

theorem endAct_ok {l : List Oper} {T : List Nat} {val : Nat → Value} {vs : List Value} {a0 : Act} (hL : Laid l T a0) : ∀ n, Agr (dsOf l) a0 (endAct l T val vs a0 n) ∧ (endAct l T val vs a0 n).tmps.size = a0.tmps.size ∧ ∀ k, k < n → SlotOk l T val vs (endAct l T val vs a0 n) k
  | 0 => ⟨Agr.refl _ _, rfl, fun k h => by omega⟩
  | n + 1 => by
    obtain ⟨h1, h2, h3⟩ := endAct_ok hL n
    refine ⟨h1.put (fun x hx => mem_dsOf.2 ⟨n, hx⟩) _, by rw [endAct, size_put']; exact h2, fun k hk d hd => ?_⟩
    rw [endAct]
    by_cases e : k = n
    · subst e
      rw [hd]
      exact tm_put_same (by rw [h2]; exact hL.lt k d hd) _
    · cases hn : dstAt l n with
      | none => exact h3 k (by omega) d hd
      | some d' =>
        have hne : d' ≠ d := fun ee => e (hL.nd k n d hd (ee ▸ hn))
        rw [tm_put_ne hne]
        exact h3 k (by omega) d hd

theorem valAt_snoc {T : List Nat} {val : Nat → Value} {vs : List Value} {v : Value} {k : Nat} (h : ∀ j, T.idxOf? k = some j → j < vs.length) : valAt T val (vs ++ [v]) k = valAt T val vs k := by
  unfold valAt
  cases hj : T.idxOf? k with
  | none => rfl
  | some j =>
    have := h j hj
    simp only [List.getD_eq_getElem?_getD, List.getElem?_append_left this]

theorem idx_get {T : List Nat} {j k : Nat} (h : T.idxOf? k = some j) : T[j]? = some k := by
  rw [List.idxOf?, List.findIdx?_eq_some_iff_getElem] at h
  obtain ⟨hl, he, _⟩ := h
  rw [List.getElem?_eq_getElem hl]
  simpa using he

theorem idx_of {T : List Nat} (hn : T.Nodup) {j k : Nat} (h : T[j]? = some k) : T.idxOf? k = some j := by
  cases hx : T.idxOf? k with
  | none =>
    rw [List.idxOf?, List.findIdx?_eq_none_iff] at hx
    have := hx k (List.mem_of_getElem? h)
    simp at this
  | some j' =>
    have h' := idx_get hx
    have hl := (List.getElem?_eq_some_iff.1 h).1
    have hl' := (List.getElem?_eq_some_iff.1 h').1
    have := (List.getElem?_inj hl hn).1 (h.trans h'.symm)
    rw [this]

theorem wp_region_hoist {P : Program} {Q : Exit → Act → World → Prop} {id : Nat} {w : World} {a0 : Act} (l : List Oper) (T : List Nat) (val : Nat → Value) (G : List Value → World → Prop) (hm : P.follows .mixedOrders = true) (hL : Laid l T a0)
    (hG : G [] w.drew)
    (hS : ∀ (i : Nat) (o : Oper), l[i]? = some o → i ∉ T → ∀ (vs : List Value) (a : Act) (w : World) (K : Act → World → Prop), G vs w → (∀ (j k : Nat) (o' : Oper), T[j]? = some k → l[k]? = some o' → (∃ e ∈ o'.after, Region.binds .any e = true ∧ e.on = i) → vs.length ≤ j) → Agr (dsOf l) a0 a → (∀ e ∈ o.after, Region.binds .any e = true → SlotOk l T val vs a e.on) → K (a.put o.dst (val i)) w → o.wp P a w K Q)
    (hT : ∀ (j i : Nat) (o : Oper), T[j]? = some i → l[i]? = some o → ∀ (vs : List Value) (a : Act) (w : World) (K : Act → World → Prop), vs.length = j → G vs w → Agr (dsOf l) a0 a → (∀ e ∈ o.after, Region.binds .any e = true → SlotOk l T val vs a e.on) → (∀ v w', G (vs ++ [v]) w' → K (a.put o.dst v) w') → o.wp P a w K Q)
    (hD : ∀ vs w', vs.length = T.length → G vs w' → Q .normal (endAct l T val vs a0 l.length) w') : (Code.region id l.toArray true).wp P Q a0 w := by
  refine wp_region_inv hm (fun listed a w => listed.size = l.length ∧ ∃ vs : List Value, vs.length ≤ T.length ∧ (∀ j k, T[j]? = some k → (listed.getD k false = true ↔ j < vs.length)) ∧ Agr (dsOf l) a0 a ∧ (∀ k, k < l.length → listed.getD k false = true → SlotOk l T val vs a k) ∧ (∀ (k : Nat) (o : Oper), l[k]? = some o → listed.getD k false = true → ∀ e ∈ o.after, Region.binds .any e = true → listed.getD e.on false = true) ∧ G vs w) (fun _ _ _ h => by simpa using h.1) ?_ ?_ ?_
  · have hrep : ∀ k, (Array.replicate l.toArray.size false).getD k false = false := by intro k; simp only [Array.getD_eq_getD_getElem?, Array.getElem?_replicate]; split <;> rfl
    refine ⟨by simp, [], by simp, fun j k _ => ?_, Agr.refl _ _, fun k _ h => ?_, fun k o _ h => ?_, hG⟩
    · rw [hrep]; simp
    · rw [hrep] at h; cases h
    · rw [hrep] at h; cases h
  · rintro listed a w i ⟨hsz, vs, hvl, hTl, hag, hsl, hcl, hg⟩ hi
    obtain ⟨hnl, o, ho, hdep⟩ := mem_ready.1 hi
    have ho' : l[i]? = some o := by simpa using ho
    have hil : i < l.length := (List.getElem?_eq_some_iff.1 ho').1
    have hgd := hL.gd o (List.mem_of_getElem? ho')
    have hdst : dstAt l i = o.dst := by unfold dstAt; rw [ho']; rfl
    have hdeps : ∀ e ∈ o.after, Region.binds .any e = true → SlotOk l T val vs a e.on := fun e he hb => hsl e.on (by have := hL.ord i o ho' e he; omega) (hdep e he hb)
    have hnf : listed.getD i false = false := by
      cases h : listed.getD i false with
      | false => rfl
      | true =>
        exfalso
        have hlt : i < listed.size := by omega
        simp [hlt] at h hnl
        rw [h] at hnl; cases hnl
    have hset : ∀ k, (listed.setIfInBounds i true).getD k false = if k = i then true else listed.getD k false := by
      intro k
      by_cases e : k = i
      · subst e; have : k < listed.size := by omega
        simp [this]
      · rw [if_neg e]
        simp only [Array.getD_eq_getD_getElem?, Array.getElem?_setIfInBounds_ne (fun h => e h.symm)]
    have hcl' : ∀ (k : Nat) (o : Oper), l[k]? = some o → (listed.setIfInBounds i true).getD k false = true → ∀ e ∈ o.after, Region.binds .any e = true → (listed.setIfInBounds i true).getD e.on false = true := by
      intro k o2 hk hkl e he hb
      rw [hset] at hkl ⊢
      by_cases e2 : e.on = i
      · rw [if_pos e2]
      · rw [if_neg e2]
        by_cases e1 : k = i
        · subst e1
          rw [ho'] at hk; injection hk with hk; subst hk
          exact hdep e he hb
        · rw [if_neg e1] at hkl
          exact hcl k o2 hk hkl e he hb
    have haput : ∀ v, Agr (dsOf l) a0 (a.put o.dst v) := fun v => hag.put (fun x hx => mem_dsOf.2 ⟨i, by rw [hdst]; exact hx⟩) v
    refine wpOp_of ho hgd ?_
    by_cases hiT : i ∈ T
    · obtain ⟨j, hj⟩ := List.getElem?_of_mem hiT
      have hjl : j = vs.length := by
        have h1 : ¬ j < vs.length := fun h => by have := (hTl j i hj).2 h; rw [hnf] at this; cases this
        cases j with
        | zero => omega
        | succ j =>
          have hjl := (List.getElem?_eq_some_iff.1 hj).1
          obtain ⟨k, hk⟩ : ∃ k, T[j]? = some k := ⟨T[j], List.getElem?_eq_getElem (by omega)⟩
          obtain ⟨o2, e, ho2, he, hb, hek⟩ := hL.chain j k i hk hj
          rw [ho'] at ho2; injection ho2 with ho2; subst ho2
          have h2 := (hTl j k hk).1 (by rw [← hek]; exact hdep e he hb)
          omega
      refine hT j i o hj ho' vs a w _ hjl.symm hg hag hdeps fun v w' hg' => ?_
      have hjT := (List.getElem?_eq_some_iff.1 hj).1
      refine ⟨by simp [hsz], vs ++ [v], by simp; omega, fun j' k hk => ?_, haput v, fun k hk hkl d hd => ?_, hcl', hg'⟩
      · rw [hset k]
        by_cases e : k = i
        · subst e
          rw [if_pos rfl]
          have : j' = j := by
            have h1 := idx_of hL.tnd hk
            have h2 := idx_of hL.tnd hj
            rw [h1] at h2; injection h2
          simp; omega
        · rw [if_neg e, hTl j' k hk]
          have : j' ≠ j := fun ee => by subst ee; rw [hj] at hk; injection hk with hk; exact e hk.symm
          simp; omega
      · rw [hset k] at hkl
        by_cases e : k = i
        · subst e
          have hdd : o.dst = some d := by rw [← hdst]; exact hd
          rw [hdd, tm_put_same (by rw [hag.size]; exact hL.lt k d hd)]
          unfold valAt
          rw [idx_of hL.tnd hj]
          simp [hjl]
        · rw [if_neg e] at hkl
          have h1 := hsl k hk hkl d hd
          rw [valAt_snoc (fun j' hj' => (hTl j' k (idx_get hj')).1 hkl)]
          cases hn : o.dst with
          | none => exact h1
          | some d' =>
            have hne : d' ≠ d := fun ee => e (hL.nd k i d hd (by rw [hdst, hn, ee]))
            rw [tm_put_ne hne]
            exact h1
    · have hlate : ∀ (j k : Nat) (o' : Oper), T[j]? = some k → l[k]? = some o' → (∃ e ∈ o'.after, Region.binds .any e = true ∧ e.on = i) → vs.length ≤ j := by
        rintro j k o2 hj hk ⟨e, he, hb, hei⟩
        refine Classical.byContradiction fun hc => ?_
        have hkl := (hTl j k hj).2 (by omega)
        have := hcl k o2 hk hkl e he hb
        rw [hei, hnf] at this
        cases this
      refine hS i o ho' hiT vs a w _ hg hlate hag hdeps ?_
      refine ⟨by simp [hsz], vs, hvl, fun j' k hk => ?_, haput _, fun k hk hkl d hd => ?_, hcl', hg⟩
      · have hne : ¬ k = i := fun e => hiT (e ▸ List.mem_of_getElem? hk)
        rw [hset k, if_neg hne]
        exact hTl j' k hk
      · rw [hset k] at hkl
        by_cases e : k = i
        · subst e
          have hdd : o.dst = some d := by rw [← hdst]; exact hd
          rw [hdd, tm_put_same (by rw [hag.size]; exact hL.lt k d hd)]
          unfold valAt
          cases hx : T.idxOf? k with
          | none => rfl
          | some j => exact absurd (List.mem_of_getElem? (idx_get hx)) hiT
        · rw [if_neg e] at hkl
          have h1 := hsl k hk hkl d hd
          cases hn : o.dst with
          | none => exact h1
          | some d' =>
            have hne : d' ≠ d := fun ee => e (hL.nd k i d hd (by rw [hdst, hn, ee]))
            rw [tm_put_ne hne]
            exact h1
  · rintro listed a w ⟨hsz, vs, hvl, hTl, hag, hsl, hcl, hg⟩ hr
    have hall := ready_none (ops := l.toArray) (md := .any) (fun i o ho => hL.ord i o (by simpa using ho)) (by simpa using hsz) hr
    have hvT : vs.length = T.length := by
      refine Nat.le_antisymm hvl ?_
      refine Classical.byContradiction fun hc => ?_
      obtain ⟨k, hk⟩ : ∃ k, T[vs.length]? = some k := ⟨T[vs.length], List.getElem?_eq_getElem (by omega)⟩
      have := (hTl _ k hk).1 (hall k (by have := hL.tlt k (List.mem_of_getElem? hk); simpa using this))
      omega
    obtain ⟨e1, e2, e3⟩ := endAct_ok (val := val) (vs := vs) hL l.length
    have hae : a = endAct l T val vs a0 l.length := by
      refine agr_ext hag e1 fun d hd => ?_
      obtain ⟨k, hk⟩ := mem_dsOf.1 hd
      have hkl : k < l.length := by
        unfold dstAt at hk
        cases ho : l[k]? with
        | none => rw [ho] at hk; cases hk
        | some o => exact (List.getElem?_eq_some_iff.1 ho).1
      rw [hsl k hkl (hall k (by simpa using hkl)) d hk, e3 k hkl d hk]
    rw [hae]
    exact hD vs w hvT hg

/-- All that the rule asks of the operations, by a test. -/
def laidB (l : List Oper) (T : List Nat) (n : Nat) : Bool :=
  ((List.range l.length).all fun i => (List.range l.length).all fun j => i == j || (dstAt l i).isNone || dstAt l i != dstAt l j) &&
  ((List.range l.length).all fun i => match dstAt l i with | none => true | some d => decide (d < n)) &&
  (l.all fun o => o.guard.isNone) &&
  ((List.range l.length).all fun i => match l[i]? with | none => true | some o => o.after.toList.all fun e => decide (e.on < i)) &&
  decide T.Nodup && (T.all fun k => decide (k < l.length)) &&
  ((List.range (T.length - 1)).all fun j => match l[T.getD (j + 1) 0]? with | none => false | some o => o.after.toList.any fun e => Region.binds .any e && e.on == T.getD j 0)

theorem dstAt_lt {l : List Oper} {k d : Nat} (h : dstAt l k = some d) : k < l.length := by
  unfold dstAt at h
  cases ho : l[k]? with
  | none => rw [ho] at h; cases h
  | some o => exact (List.getElem?_eq_some_iff.1 ho).1

theorem laid_of {l : List Oper} {T : List Nat} {a0 : Act} (h : laidB l T a0.tmps.size = true) : Laid l T a0 := by
  unfold laidB at h
  simp only [Bool.and_eq_true] at h
  obtain ⟨⟨⟨⟨⟨⟨h1, h2⟩, h3⟩, h4⟩, h5⟩, h6⟩, h7⟩ := h
  refine ⟨fun i j d hi hj => ?_, fun i d hi => ?_, fun o ho => ?_, fun i o ho e he => ?_, by simpa using h5, fun k hk => ?_, fun j k k' hk hk' => ?_⟩
  · have := List.all_eq_true.1 (List.all_eq_true.1 h1 i (List.mem_range.2 (dstAt_lt hi))) j (List.mem_range.2 (dstAt_lt hj))
    rw [hi, hj] at this
    simpa using this
  · have := List.all_eq_true.1 h2 i (List.mem_range.2 (dstAt_lt hi))
    rw [hi] at this
    simpa using this
  · have := List.all_eq_true.1 h3 o ho
    simpa using this
  · have := List.all_eq_true.1 h4 i (List.mem_range.2 (List.getElem?_eq_some_iff.1 ho).1)
    rw [ho] at this
    have := List.all_eq_true.1 this e (by simpa using he)
    simpa using this
  · have := List.all_eq_true.1 h6 k hk
    simpa using this
  · have hl := (List.getElem?_eq_some_iff.1 hk').1
    have := List.all_eq_true.1 h7 j (List.mem_range.2 (by omega))
    simp only [List.getD_eq_getElem?_getD, hk, hk', Option.getD_some] at this
    cases ho : l[k']? with
    | none => rw [ho] at this; cases this
    | some o =>
      rw [ho] at this
      obtain ⟨e, he, hb⟩ := List.any_eq_true.1 this
      simp only [Bool.and_eq_true, beq_iff_eq] at hb
      exact ⟨o, e, rfl, by simpa using he, hb.1, hb.2⟩

/-- A call. -/
theorem op_call {P : Program} {o : Oper} {a : Act} {w : World} {K : Act → World → Prop} {Q : Exit → Act → World → Prop} (f : FuncId) (args : Array Value)
    (hex : (execOp a.eval o).run P w = .ok (.enter f args) w) (hc : Calls P f args w fun e w' => ∃ v, e = .returned v ∧ K (a.put o.dst v) w') : Oper.wp P o a w K Q := by
  unfold Oper.wp
  rw [hex, Oper.upon_enter]
  refine hc.mono ?_
  rintro e w' ⟨v, rfl, hr⟩
  exact hr

/-- An append to a row of the call's own. -/
theorem op_append {P : Program} {o : Oper} {a : Act} {w : World} {K : Act → World → Prop} {Q : Exit → Act → World → Prop} (s x : Operand) (t : TypeId)
    (ho : o.op = .call { callee := .builtin .append, args := #[s, x], argTypes := #[t, t] })
    (base : Nat) (e : TypeId) (i : TypeInfo) (z : Value) (size bytes : Nat) (ht : P.underlying t = some (.slice e)) (hi : P.info? e = some i) (hz : i.zero = some z)
    (hsize : i.size = size) (hby : i.bytes = bytes) (hzs : z.cells.size = size) (hsz : 0 < size)
    (v : Value) (n : Nat) (xs : List Value) (hs : a.eval s = v) (hown : w.ownsRow base e size v n xs)
    (ad : Addr) (m c : Nat) (news : List Value) (hx : a.eval x = .slice (some ad) m c) (hl : news.length = m * size) (hnews : ∀ j u, news[j]? = some u → w.cell? (ad.add j) = some u) (h1 : ∀ u ∈ news, u.oneCell' = true)
    (h63 : n + m ≤ maxLen) (hbytes : (n + m) * bytes ≤ 140737488355328) (hbase : base ≤ w.heap.size)
    (h : ∀ v' w', w'.ownsRow base e size v' (n + m) (xs ++ news) → w.grownBy w' v.ownBlock → (v'.ownBlock = v.ownBlock ∨ v'.ownBlock = some w.heap.size) → K (a.put o.dst v') w') :
    Oper.wp P o a w K Q := by
  obtain ⟨v', w', hr, h2, h3, _, h5⟩ := run_append_own_at (P := P) w base t o.type e i z size bytes ht hi hz hsize hby hzs hsz v n xs hown ad m c news hl hnews h1 h63 hbytes hbase
  unfold Oper.wp execOp
  simp only [ho, resolve, invoke, builtin, Sem.run_bind, Sem.run_pure, Result.andThen_ok, List.map_toArray, List.map_cons, List.map_nil, hs, hx, hr]
  exact h v' w' h2 h3 h5

end Go.Proofs.Ytohofkfajmeohaa
