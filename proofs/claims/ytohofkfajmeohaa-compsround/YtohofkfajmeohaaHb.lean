/- The rule for a region that draws its order and writes, where what only reads may hang on what the chain handed back. -/
import Derived.Test.YtohofkfajmeohaaProg
import Derived.Test.YtohofkfajmeohaaMem
import Derived.Test.YtohofkfajmeohaaHa
namespace Go.Proofs.Ytohofkfajmeohaa
set_option linter.unusedSimpArgs false
set_option linter.unusedVariables false
open Go.RowKit

/-- Each operation waits for earlier ones alone, where it must wait: then, where none may come up, all are done. -/
theorem ready_none2 {ops : Array Oper} {md : Region.Mode} {listed : Array Bool} (hord : ∀ (i : Nat) (o : Oper), ops[i]? = some o → ∀ e ∈ o.after, Region.binds md e = true → e.on < i) (hsz : listed.size = ops.size) (h : Region.ready md ops listed = []) : ∀ i, i < ops.size → listed.getD i false = true := by
  intro i
  induction i using Nat.strongRecOn with
  | ind i ih =>
    intro hi
    refine getD_both (by omega) ?_
    cases hl : listed.getD i true with
    | true => rfl
    | false =>
      exfalso
      have hm : i ∈ Region.ready md ops listed := mem_ready.2 ⟨hl, ops[i], Array.getElem?_eq_getElem hi, fun e he hb => by
        have h1 := hord i _ (Array.getElem?_eq_getElem hi) e he hb
        exact ih e.on h1 (by omega)⟩
      rw [h] at hm
      cases hm

def valAt2 (T : List Nat) (td : Nat → Nat) (val : Nat → List Value → Value) (vs : List Value) (k : Nat) : Value := match T.idxOf? k with
  | some j => vs.getD j undef
  | none => val k (vs.take (td k))

def SlotOk2 (l : List Oper) (T : List Nat) (td : Nat → Nat) (val : Nat → List Value → Value) (vs : List Value) (a : Act) (k : Nat) : Prop := ∀ d, dstAt l k = some d → a.tmps[d]?.getD undef = valAt2 T td val vs k

/-- The frame behind them all. -/
def endAct2 (l : List Oper) (T : List Nat) (td : Nat → Nat) (val : Nat → List Value → Value) (vs : List Value) (a0 : Act) : Nat → Act
  | 0 => a0
  | k + 1 => (endAct2 l T td val vs a0 k).put (dstAt l k) (valAt2 T td val vs k)

structure Laid2 (l : List Oper) (T : List Nat) (td : Nat → Nat) (a0 : Act) : Prop where
  nd : ∀ i j d, dstAt l i = some d → dstAt l j = some d → i = j
  lt : ∀ i d, dstAt l i = some d → d < a0.tmps.size
  gd : ∀ o ∈ l, o.guard = none
  ord : ∀ (i : Nat) (o : Oper), l[i]? = some o → ∀ e ∈ o.after, Region.binds .any e = true → e.on < i
  tnd : T.Nodup
  tlt : ∀ k ∈ T, k < l.length
  chain : ∀ j k k', T[j]? = some k → T[j + 1]? = some k' → ∃ (o : Oper) (e : Edge), l[k']? = some o ∧ e ∈ o.after ∧ Region.binds .any e = true ∧ e.on = k
  tdo : ∀ (i : Nat) (o : Oper), l[i]? = some o → i ∉ T → td i = 0 ∨ ∃ e ∈ o.after, Region.binds .any e = true ∧ ((∃ j, T[j]? = some e.on ∧ td i ≤ j + 1) ∨ (e.on ∉ T ∧ td i ≤ td e.on))

theorem endAct2_ok {l : List Oper} {T : List Nat} {td : Nat → Nat} {val : Nat → List Value → Value} {vs : List Value} {a0 : Act} (hL : Laid2 l T td a0) : ∀ n, Agr (dsOf l) a0 (endAct2 l T td val vs a0 n) ∧ (endAct2 l T td val vs a0 n).tmps.size = a0.tmps.size ∧ ∀ k, k < n → SlotOk2 l T td val vs (endAct2 l T td val vs a0 n) k
  | 0 => ⟨Agr.refl _ _, rfl, fun k h => by omega⟩
  | n + 1 => by
    obtain ⟨h1, h2, h3⟩ := endAct2_ok hL n
    refine ⟨h1.put (fun x hx => mem_dsOf.2 ⟨n, hx⟩) _, by rw [endAct2, size_put']; exact h2, fun k hk d hd => ?_⟩
    rw [endAct2]
    by_cases e : k = n
    · subst e
      rw [hd]
      exact tm_put_same (by rw [h2]; exact hL.lt k d hd) _
    · cases hn : dstAt l n with
      | none => exact h3 k (by omega) d hd
      | some d' =>
        have hne : d' ≠ d := fun ee => e (hL.nd k n d hd (ee ▸ hn))
        rw [tm_put_ne hne]
        exact h3 k (by omega) d hd

theorem valAt2_snoc {T : List Nat} {td : Nat → Nat} {val : Nat → List Value → Value} {vs : List Value} {v : Value} {k : Nat} (h : ∀ j, T.idxOf? k = some j → j < vs.length) (h' : T.idxOf? k = none → td k ≤ vs.length) : valAt2 T td val (vs ++ [v]) k = valAt2 T td val vs k := by
  unfold valAt2
  cases hj : T.idxOf? k with
  | none =>
    have := h' hj
    simp only [List.take_append_of_le_length this]
  | some j =>
    have := h j hj
    simp only [List.getD_eq_getElem?_getD, List.getElem?_append_left this]

theorem idx_none {T : List Nat} {k : Nat} (h : k ∉ T) : T.idxOf? k = none := by
  cases hx : T.idxOf? k with
  | none => rfl
  | some j => exact absurd (List.mem_of_getElem? (idx_get hx)) h

theorem idx_none' {T : List Nat} {k : Nat} (h : T.idxOf? k = none) : k ∉ T := by
  intro hm
  rw [List.idxOf?, List.findIdx?_eq_none_iff] at h
  have := h k hm
  simp at this

theorem wp_region_hoist2 {P : Program} {Q : Exit → Act → World → Prop} {id : Nat} {w : World} {a0 : Act} (l : List Oper) (T : List Nat) (td : Nat → Nat) (val : Nat → List Value → Value) (G : List Value → World → Prop) (hm : P.follows .mixedOrders = true) (hL : Laid2 l T td a0)
    (hG : G [] w.drew)
    (hS : ∀ (i : Nat) (o : Oper), l[i]? = some o → i ∉ T → ∀ (vs : List Value) (a : Act) (w : World) (K : Act → World → Prop), G vs w → td i ≤ vs.length → (∀ (j k : Nat) (o' : Oper), T[j]? = some k → l[k]? = some o' → (∃ e ∈ o'.after, Region.binds .any e = true ∧ e.on = i) → vs.length ≤ j) → Agr (dsOf l) a0 a → (∀ e ∈ o.after, Region.binds .any e = true → SlotOk2 l T td val vs a e.on) → K (a.put o.dst (val i (vs.take (td i)))) w → o.wp P a w K Q)
    (hT : ∀ (j i : Nat) (o : Oper), T[j]? = some i → l[i]? = some o → ∀ (vs : List Value) (a : Act) (w : World) (K : Act → World → Prop), vs.length = j → G vs w → Agr (dsOf l) a0 a → (∀ e ∈ o.after, Region.binds .any e = true → SlotOk2 l T td val vs a e.on) → (∀ v w', G (vs ++ [v]) w' → K (a.put o.dst v) w') → o.wp P a w K Q)
    (hD : ∀ vs w', vs.length = T.length → G vs w' → Q .normal (endAct2 l T td val vs a0 l.length) w') : (Code.region id l.toArray true).wp P Q a0 w := by
  refine wp_region_inv hm (fun listed a w => listed.size = l.length ∧ ∃ vs : List Value, vs.length ≤ T.length ∧ (∀ j k, T[j]? = some k → (listed.getD k false = true ↔ j < vs.length)) ∧ Agr (dsOf l) a0 a ∧ (∀ k, k < l.length → listed.getD k false = true → SlotOk2 l T td val vs a k) ∧ (∀ (k : Nat) (o : Oper), l[k]? = some o → listed.getD k false = true → ∀ e ∈ o.after, Region.binds .any e = true → listed.getD e.on false = true) ∧ (∀ k, k ∉ T → listed.getD k false = true → td k ≤ vs.length) ∧ G vs w) (fun _ _ _ h => by simpa using h.1) ?_ ?_ ?_
  · have hrep : ∀ k, (Array.replicate l.toArray.size false).getD k false = false := by intro k; simp only [Array.getD_eq_getD_getElem?, Array.getElem?_replicate]; split <;> rfl
    refine ⟨by simp, [], by simp, fun j k _ => ?_, Agr.refl _ _, fun k _ h => ?_, fun k o _ h => ?_, fun k _ h => ?_, hG⟩
    · rw [hrep]; simp
    · rw [hrep] at h; cases h
    · rw [hrep] at h; cases h
    · rw [hrep] at h; cases h
  · rintro listed a w i ⟨hsz, vs, hvl, hTl, hag, hsl, hcl, htd, hg⟩ hi
    obtain ⟨hnl, o, ho, hdep⟩ := mem_ready.1 hi
    have ho' : l[i]? = some o := by simpa using ho
    have hil : i < l.length := (List.getElem?_eq_some_iff.1 ho').1
    have hgd := hL.gd o (List.mem_of_getElem? ho')
    have hdst : dstAt l i = o.dst := by unfold dstAt; rw [ho']; rfl
    have hdeps : ∀ e ∈ o.after, Region.binds .any e = true → SlotOk2 l T td val vs a e.on := fun e he hb => hsl e.on (by have := hL.ord i o ho' e he hb; omega) (hdep e he hb)
    have hnf : listed.getD i false = false := by
      cases h : listed.getD i false with
      | false => rfl
      | true =>
        exfalso
        have hlt : i < listed.size := by omega
        simp [hlt] at h hnl
        rw [h] at hnl; cases hnl
    have hset : ∀ k, (listed.setIfInBounds i true).getD k false = if k = i then true else listed.getD k false := by
      intro k
      by_cases e : k = i
      · subst e; have : k < listed.size := by omega
        simp [this]
      · rw [if_neg e]
        simp only [Array.getD_eq_getD_getElem?, Array.getElem?_setIfInBounds_ne (fun h => e h.symm)]
    have hcl' : ∀ (k : Nat) (o : Oper), l[k]? = some o → (listed.setIfInBounds i true).getD k false = true → ∀ e ∈ o.after, Region.binds .any e = true → (listed.setIfInBounds i true).getD e.on false = true := by
      intro k o2 hk hkl e he hb
      rw [hset] at hkl ⊢
      by_cases e2 : e.on = i
      · rw [if_pos e2]
      · rw [if_neg e2]
        by_cases e1 : k = i
        · subst e1
          rw [ho'] at hk; injection hk with hk; subst hk
          exact hdep e he hb
        · rw [if_neg e1] at hkl
          exact hcl k o2 hk hkl e he hb
    have haput : ∀ v, Agr (dsOf l) a0 (a.put o.dst v) := fun v => hag.put (fun x hx => mem_dsOf.2 ⟨i, by rw [hdst]; exact hx⟩) v
    refine wpOp_of ho hgd ?_
    by_cases hiT : i ∈ T
    · obtain ⟨j, hj⟩ := List.getElem?_of_mem hiT
      have hjl : j = vs.length := by
        have h1 : ¬ j < vs.length := fun h => by have := (hTl j i hj).2 h; rw [hnf] at this; cases this
        cases j with
        | zero => omega
        | succ j =>
          have hjl := (List.getElem?_eq_some_iff.1 hj).1
          obtain ⟨k, hk⟩ : ∃ k, T[j]? = some k := ⟨T[j], List.getElem?_eq_getElem (by omega)⟩
          obtain ⟨o2, e, ho2, he, hb, hek⟩ := hL.chain j k i hk hj
          rw [ho'] at ho2; injection ho2 with ho2; subst ho2
          have h2 := (hTl j k hk).1 (by rw [← hek]; exact hdep e he hb)
          omega
      refine hT j i o hj ho' vs a w _ hjl.symm hg hag hdeps fun v w' hg' => ?_
      have hjT := (List.getElem?_eq_some_iff.1 hj).1
      refine ⟨by simp [hsz], vs ++ [v], by simp; omega, fun j' k hk => ?_, haput v, fun k hk hkl d hd => ?_, hcl', fun k hk hkl => ?_, hg'⟩
      · rw [hset k]
        by_cases e : k = i
        · subst e
          rw [if_pos rfl]
          have : j' = j := by
            have h1 := idx_of hL.tnd hk
            have h2 := idx_of hL.tnd hj
            rw [h1] at h2; injection h2
          simp; omega
        · rw [if_neg e, hTl j' k hk]
          have : j' ≠ j := fun ee => by subst ee; rw [hj] at hk; injection hk with hk; exact e hk.symm
          simp; omega
      · rw [hset k] at hkl
        by_cases e : k = i
        · subst e
          have hdd : o.dst = some d := by rw [← hdst]; exact hd
          rw [hdd, tm_put_same (by rw [hag.size]; exact hL.lt k d hd)]
          unfold valAt2
          rw [idx_of hL.tnd hj]
          simp [hjl]
        · rw [if_neg e] at hkl
          have h1 := hsl k hk hkl d hd
          rw [valAt2_snoc (fun j' hj' => (hTl j' k (idx_get hj')).1 hkl) (fun hn => htd k (idx_none' hn) hkl)]
          cases hn : o.dst with
          | none => exact h1
          | some d' =>
            have hne : d' ≠ d := fun ee => e (hL.nd k i d hd (by rw [hdst, hn, ee]))
            rw [tm_put_ne hne]
            exact h1
      · rw [hset k] at hkl
        have hne : ¬ k = i := fun e => hk (e ▸ hiT)
        rw [if_neg hne] at hkl
        have := htd k hk hkl
        simp; omega
    · have hlate : ∀ (j k : Nat) (o' : Oper), T[j]? = some k → l[k]? = some o' → (∃ e ∈ o'.after, Region.binds .any e = true ∧ e.on = i) → vs.length ≤ j := by
        rintro j k o2 hj hk ⟨e, he, hb, hei⟩
        refine Classical.byContradiction fun hc => ?_
        have hkl := (hTl j k hj).2 (by omega)
        have := hcl k o2 hk hkl e he hb
        rw [hei, hnf] at this
        cases this
      have htdi : td i ≤ vs.length := by
        rcases hL.tdo i o ho' hiT with h0 | ⟨e, he, hb, ⟨j, hj, hle⟩ | ⟨hn, hle⟩⟩
        · omega
        · have := (hTl j e.on hj).1 (hdep e he hb)
          omega
        · have := htd e.on hn (hdep e he hb)
          omega
      refine hS i o ho' hiT vs a w _ hg htdi hlate hag hdeps ?_
      refine ⟨by simp [hsz], vs, hvl, fun j' k hk => ?_, haput _, fun k hk hkl d hd => ?_, hcl', fun k hk hkl => ?_, hg⟩
      · have hne : ¬ k = i := fun e => hiT (e ▸ List.mem_of_getElem? hk)
        rw [hset k, if_neg hne]
        exact hTl j' k hk
      · rw [hset k] at hkl
        by_cases e : k = i
        · subst e
          have hdd : o.dst = some d := by rw [← hdst]; exact hd
          rw [hdd, tm_put_same (by rw [hag.size]; exact hL.lt k d hd)]
          unfold valAt2
          rw [idx_none hiT]
        · rw [if_neg e] at hkl
          have h1 := hsl k hk hkl d hd
          cases hn : o.dst with
          | none => exact h1
          | some d' =>
            have hne : d' ≠ d := fun ee => e (hL.nd k i d hd (by rw [hdst, hn, ee]))
            rw [tm_put_ne hne]
            exact h1
      · rw [hset k] at hkl
        by_cases e : k = i
        · subst e; exact htdi
        · rw [if_neg e] at hkl
          exact htd k hk hkl
  · rintro listed a w ⟨hsz, vs, hvl, hTl, hag, hsl, hcl, htd, hg⟩ hr
    have hall := ready_none2 (ops := l.toArray) (md := .any) (fun i o ho => hL.ord i o (by simpa using ho)) (by simpa using hsz) hr
    have hvT : vs.length = T.length := by
      refine Nat.le_antisymm hvl ?_
      refine Classical.byContradiction fun hc => ?_
      obtain ⟨k, hk⟩ : ∃ k, T[vs.length]? = some k := ⟨T[vs.length], List.getElem?_eq_getElem (by omega)⟩
      have := (hTl _ k hk).1 (hall k (by have := hL.tlt k (List.mem_of_getElem? hk); simpa using this))
      omega
    obtain ⟨e1, e2, e3⟩ := endAct2_ok (val := val) (vs := vs) hL l.length
    have hae : a = endAct2 l T td val vs a0 l.length := by
      refine agr_ext hag e1 fun d hd => ?_
      obtain ⟨k, hk⟩ := mem_dsOf.1 hd
      have hkl := dstAt_lt hk
      rw [hsl k hkl (hall k (by simpa using hkl)) d hk, e3 k hkl d hk]
    rw [hae]
    exact hD vs w hvT hg

/-- All that the rule asks of the operations, by a test. -/
def laidB2 (l : List Oper) (T : List Nat) (td : Nat → Nat) (n : Nat) : Bool :=
  ((List.range l.length).all fun i => (List.range l.length).all fun j => i == j || (dstAt l i).isNone || dstAt l i != dstAt l j) &&
  ((List.range l.length).all fun i => match dstAt l i with | none => true | some d => decide (d < n)) &&
  (l.all fun o => o.guard.isNone) &&
  ((List.range l.length).all fun i => match l[i]? with | none => true | some o => o.after.toList.all fun e => !Region.binds .any e || decide (e.on < i)) &&
  decide T.Nodup && (T.all fun k => decide (k < l.length)) &&
  ((List.range (T.length - 1)).all fun j => match l[T.getD (j + 1) 0]? with | none => false | some o => o.after.toList.any fun e => Region.binds .any e && e.on == T.getD j 0) &&
  ((List.range l.length).all fun i => match l[i]? with | none => true | some o => T.contains i || td i == 0 || o.after.toList.any fun e => Region.binds .any e && (match T.idxOf? e.on with | some j => decide (td i ≤ j + 1) | none => decide (td i ≤ td e.on)))

theorem laid2_of {l : List Oper} {T : List Nat} {td : Nat → Nat} {a0 : Act} (h : laidB2 l T td a0.tmps.size = true) : Laid2 l T td a0 := by
  unfold laidB2 at h
  simp only [Bool.and_eq_true] at h
  obtain ⟨⟨⟨⟨⟨⟨⟨h1, h2⟩, h3⟩, h4⟩, h5⟩, h6⟩, h7⟩, h8⟩ := h
  refine ⟨fun i j d hi hj => ?_, fun i d hi => ?_, fun o ho => ?_, fun i o ho e he hb => ?_, by simpa using h5, fun k hk => ?_, fun j k k' hk hk' => ?_, fun i o ho hiT => ?_⟩
  · have := List.all_eq_true.1 (List.all_eq_true.1 h1 i (List.mem_range.2 (dstAt_lt hi))) j (List.mem_range.2 (dstAt_lt hj))
    rw [hi, hj] at this
    simpa using this
  · have := List.all_eq_true.1 h2 i (List.mem_range.2 (dstAt_lt hi))
    rw [hi] at this
    simpa using this
  · have := List.all_eq_true.1 h3 o ho
    simpa using this
  · have := List.all_eq_true.1 h4 i (List.mem_range.2 (List.getElem?_eq_some_iff.1 ho).1)
    rw [ho] at this
    have := List.all_eq_true.1 this e (by simpa using he)
    rw [hb] at this
    simpa using this
  · have := List.all_eq_true.1 h6 k hk
    simpa using this
  · have hl := (List.getElem?_eq_some_iff.1 hk').1
    have := List.all_eq_true.1 h7 j (List.mem_range.2 (by omega))
    simp only [List.getD_eq_getElem?_getD, hk, hk', Option.getD_some] at this
    cases ho : l[k']? with
    | none => rw [ho] at this; cases this
    | some o =>
      rw [ho] at this
      obtain ⟨e, he, hb⟩ := List.any_eq_true.1 this
      simp only [Bool.and_eq_true, beq_iff_eq] at hb
      exact ⟨o, e, rfl, by simpa using he, hb.1, hb.2⟩
  · have := List.all_eq_true.1 h8 i (List.mem_range.2 (List.getElem?_eq_some_iff.1 ho).1)
    rw [ho] at this
    simp only [Bool.or_eq_true] at this
    rcases this with (h | h) | h
    · exact absurd (by simpa using h) hiT
    · exact .inl (by simpa using h)
    · obtain ⟨e, he, hb⟩ := List.any_eq_true.1 h
      rw [Bool.and_eq_true] at hb
      refine .inr ⟨e, by simpa using he, hb.1, ?_⟩
      cases hx : T.idxOf? e.on with
      | none =>
        rw [hx] at hb
        exact .inr ⟨idx_none' hx, by simpa using hb.2⟩
      | some j =>
        rw [hx] at hb
        exact .inl ⟨j, idx_get hx, by simpa using hb.2⟩

end Go.Proofs.Ytohofkfajmeohaa
