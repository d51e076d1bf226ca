/- Plain: what an object leads to; components. -/
import Derived.Test.YtohofkfajmeohaaMem
import Derived.Test.YtohofkfajmeohaaPa
namespace Go.Proofs.Ytohofkfajmeohaa
set_option linter.unusedSimpArgs false
set_option linter.unusedVariables false
open Go.RowKit

/-- The graph, with an object's fields for its roots. -/
def fromG (g : Gr) (i : Int) : Gr := { objs := g.objs, roots := fieldsOf g i }

/-- What an object leads to, in the order of finding. -/
def ledL (g : Gr) (i : Int) : List Int := orderOf (fromG g i)

theorem fieldsOf_or (g : Gr) (i : Int) : fieldsOf g i = [] ∨ fieldsOf g i ∈ g.objs := by
  unfold fieldsOf
  cases h : g.objs[i.toNat]? with
  | none => exact .inl rfl
  | some l => exact .inr (List.mem_of_getElem? h)

theorem refsOk_fields {g : Gr} (h : Good g) (i : Int) : RefsOk (fieldsOf g i) := by
  rcases fieldsOf_or g i with e | e
  · rw [e]; intro v hv; simp at hv
  · exact h.refsObjs e

theorem good_from {g : Gr} (h : Good g) (i : Int) : Good (fromG g i) := by
  refine ⟨h.n24, ?_, h.n4, ?_, h.ro⟩
  · rcases fieldsOf_or g i with e | e
    · show (fieldsOf g i).length ≤ 8; rw [e]; simp
    · have := h.n4 _ e; show (fieldsOf g i).length ≤ 8; omega
  · rcases fieldsOf_or g i with e | e
    · show ∀ v ∈ fieldsOf g i, _; rw [e]; intro v hv; simp at hv
    · exact h.ro _ e

theorem led_rng {g : Gr} (h : Good g) {i x : Int} (hx : x ∈ ledL g i) : 0 ≤ x ∧ x < g.objs.length := order_ok (good_from h i) hx

theorem led_nodup {g : Gr} (h : Good g) (i : Int) : (ledL g i).Nodup := order_nodup (good_from h i)

theorem led_step {g : Gr} {i x : Int} (hx : x ∈ refsL (fieldsOf g i)) : x ∈ ledL g i := order_roots (fromG g i) x hx

theorem led_next {g : Gr} (h : Good g) {i x y : Int} (hx : x ∈ ledL g i) (hy : y ∈ refsL (fieldsOf g x)) : y ∈ ledL g i := order_closed (good_from h i) hx y hy

theorem led_ind {g : Gr} (h : Good g) {i : Int} (P : Int → Prop) (h1 : ∀ x ∈ refsL (fieldsOf g i), P x) (h2 : ∀ x y, x ∈ ledL g i → P x → y ∈ refsL (fieldsOf g x) → P y) : ∀ x ∈ ledL g i, P x := by
  classical
  intro x hx
  have hc : closedB (fromG g i) ((ledL g i).filter fun x => decide (P x)) = true := by
    unfold closedB
    rw [Bool.and_eq_true]
    refine ⟨(okV_all (good_from h i).refsRoots).2 (fun x hx => ?_), List.all_eq_true.2 fun o ho => ?_⟩
    · rw [List.mem_filter]; exact ⟨led_step hx, by simpa using h1 x hx⟩
    · rw [List.mem_filter] at ho
      refine (okV_all (refsOk_fields h o)).2 (fun y hy => ?_)
      rw [List.mem_filter]
      exact ⟨led_next h ho.1 hy, by simpa using h2 o y ho.1 (by simpa using ho.2) hy⟩
  have := closed_least (good_from h i) hc x hx
  rw [List.mem_filter] at this
  simpa using this.2

theorem led_trans {g : Gr} (h : Good g) {i x y : Int} (hx : x ∈ ledL g i) (hy : y ∈ ledL g x) : y ∈ ledL g i :=
  led_ind h (fun y => y ∈ ledL g i) (fun z hz => led_next h hx hz) (fun a b _ ha hb => led_next h ha hb) y hy

/-- The numbers below k. -/
def nums (k : Nat) : List Int := (List.range k).map (fun (i : Nat) => (i : Int))

theorem nums_succ (k : Nat) : nums (k + 1) = nums k ++ [(k : Int)] := by unfold nums; rw [List.range_succ, List.map_append]; rfl
theorem mem_nums {k : Nat} {x : Int} : x ∈ nums k ↔ 0 ≤ x ∧ x < k := by
  unfold nums
  simp only [List.mem_map, List.mem_range]
  constructor
  · rintro ⟨i, hi, rfl⟩; omega
  · rintro ⟨h0, h1⟩; exact ⟨x.toNat, by omega, by omega⟩
theorem nums_len (k : Nat) : (nums k).length = k := by simp [nums]
theorem nums_lt (k : Nat) : (nums k).Pairwise (· < ·) := by
  unfold nums
  rw [List.pairwise_map]
  exact List.pairwise_lt_range.imp (fun h => by omega)

/-- Are two in one component? -/
def inOne (g : Gr) (o p : Int) : Bool := decide (p = o) || (decide (p ∈ ledL g o) && decide (o ∈ ledL g p))

theorem inOne_iff {g : Gr} {o p : Int} : inOne g o p = true ↔ p = o ∨ p ∈ ledL g o ∧ o ∈ ledL g p := by
  unfold inOne; simp

theorem inOne_refl (g : Gr) (o : Int) : inOne g o o = true := inOne_iff.2 (.inl rfl)
theorem inOne_symm {g : Gr} {o p : Int} (h : inOne g o p = true) : inOne g p o = true := by
  rcases inOne_iff.1 h with h | h
  · exact inOne_iff.2 (.inl h.symm)
  · exact inOne_iff.2 (.inr ⟨h.2, h.1⟩)
theorem inOne_trans {g : Gr} (hg : Good g) {o p q : Int} (h : inOne g o p = true) (h' : inOne g p q = true) : inOne g o q = true := by
  rcases inOne_iff.1 h with rfl | h
  · exact h'
  · rcases inOne_iff.1 h' with rfl | h'
    · exact inOne_iff.2 (.inr h)
    · exact inOne_iff.2 (.inr ⟨led_trans hg h.1 h'.1, led_trans hg h'.2 h.2⟩)

/-- The first k objects, those in one with o. -/
def compK (g : Gr) (o : Int) (k : Nat) : List Int := (nums k).filter (inOne g o)
def compL (g : Gr) (o : Int) : List Int := compK g o g.objs.length

theorem compK_yes {g : Gr} {o : Int} {k : Nat} (h : inOne g o k = true) : compK g o (k + 1) = compK g o k ++ [(k : Int)] := by
  unfold compK; rw [nums_succ, List.filter_append]; simp [h]
theorem compK_no {g : Gr} {o : Int} {k : Nat} (h : inOne g o k = false) : compK g o (k + 1) = compK g o k := by
  unfold compK; rw [nums_succ, List.filter_append]; simp [h]
theorem compK_len (g : Gr) (o : Int) (k : Nat) : (compK g o k).length ≤ k := by
  unfold compK; have := List.length_filter_le (inOne g o) (nums k); rwa [nums_len] at this

theorem mem_comp {g : Gr} {o p : Int} : p ∈ compL g o ↔ (0 ≤ p ∧ p < g.objs.length) ∧ inOne g o p = true := by
  unfold compL compK; rw [List.mem_filter, mem_nums]

theorem comp_lt (g : Gr) (o : Int) : (compL g o).Pairwise (· < ·) := (nums_lt _).filter _
theorem comp_nodup (g : Gr) (o : Int) : (compL g o).Nodup := by
  rw [List.nodup_iff_pairwise_ne]; exact (comp_lt g o).imp (fun h => by omega)

theorem comp_eq {g : Gr} (hg : Good g) {o p : Int} (h : inOne g o p = true) : compL g o = compL g p := by
  unfold compL compK
  refine List.filter_congr fun x _ => ?_
  rw [Bool.eq_iff_iff]
  exact ⟨fun h' => inOne_trans hg (inOne_symm h) h', fun h' => inOne_trans hg h h'⟩

theorem comp_self {g : Gr} {o : Int} (h0 : 0 ≤ o) (h1 : o < g.objs.length) : o ∈ compL g o := mem_comp.2 ⟨⟨h0, h1⟩, inOne_refl _ _⟩

/-- The least of o's component. -/
def headOf (g : Gr) (o : Int) : Int := (compL g o)[0]?.getD (-1)

theorem head_get {g : Gr} {o : Int} (h0 : 0 ≤ o) (h1 : o < g.objs.length) : (compL g o)[0]? = some (headOf g o) := by
  unfold headOf
  have := comp_self h0 h1
  cases h : compL g o with
  | nil => rw [h] at this; simp at this
  | cons x l => rfl

theorem head_mem {g : Gr} {o : Int} (h0 : 0 ≤ o) (h1 : o < g.objs.length) : headOf g o ∈ compL g o := List.mem_of_getElem? (head_get h0 h1)

theorem head_le {g : Gr} {o p : Int} (h0 : 0 ≤ o) (h1 : o < g.objs.length) (hp : p ∈ compL g o) : headOf g o ≤ p := by
  obtain ⟨k, hk, hkp⟩ := List.getElem_of_mem hp
  have hh := head_get h0 h1
  have hl : 0 < (compL g o).length := by omega
  rw [List.getElem?_eq_getElem hl] at hh
  injection hh with hh
  rcases Nat.eq_zero_or_pos k with e | e
  · subst e; omega
  · have := (List.pairwise_iff_getElem.1 (comp_lt g o)) 0 k hl hk e
    omega

/-- Is o the least of its component? -/
def isHead (g : Gr) (o : Int) : Bool := decide (headOf g o = o)

theorem head_head {g : Gr} (hg : Good g) {o : Int} (h0 : 0 ≤ o) (h1 : o < g.objs.length) : compL g (headOf g o) = compL g o ∧ isHead g (headOf g o) = true := by
  have hm := mem_comp.1 (head_mem h0 h1)
  have e := comp_eq hg hm.2
  refine ⟨e.symm, ?_⟩
  unfold isHead
  rw [decide_eq_true_eq]
  show (compL g (headOf g o))[0]?.getD (-1) = _
  rw [← e]
  rfl

/-- The components of the first k objects that are the least of theirs. -/
def compsK (g : Gr) (k : Nat) : List (List Int) := ((nums k).filter (isHead g)).map (compL g)

theorem compsK_yes {g : Gr} {k : Nat} (h : isHead g k = true) : compsK g (k + 1) = compsK g k ++ [compL g k] := by
  unfold compsK; rw [nums_succ, List.filter_append, List.map_append]; simp [h]
theorem compsK_no {g : Gr} {k : Nat} (h : isHead g k = false) : compsK g (k + 1) = compsK g k := by
  unfold compsK; rw [nums_succ, List.filter_append, List.map_append]; simp [h]
theorem compsK_len (g : Gr) (k : Nat) : (compsK g k).length ≤ k := by
  unfold compsK; rw [List.length_map]; have := List.length_filter_le (isHead g) (nums k); rwa [nums_len] at this

/-- May o's component come, behind those that are done? -/
def ready (g : Gr) (done : List Int) (o : Int) : Bool := (ledL g o).all fun p => decide (p ∈ compL g o) || decide (p ∈ done)

theorem ready_iff {g : Gr} {done : List Int} {o : Int} : ready g done o = true ↔ ∀ p ∈ ledL g o, p ∉ compL g o → p ∈ done := by
  unfold ready
  rw [List.all_eq_true]
  constructor
  · intro h p hp hn
    have := h p hp
    simpa [hn] using this
  · intro h p hp
    by_cases hn : p ∈ compL g o
    · simp [hn]
    · simp [h p hp hn]

/-- Which comes next? -/
def nextH (g : Gr) (done : List Int) : Option Int := (nums g.objs.length).find? fun o => isHead g o && !decide (o ∈ done) && ready g done o

/-- The components that have come behind k rounds. -/
def outN (g : Gr) : Nat → List (List Int)
  | 0 => []
  | k + 1 => match nextH g (outN g k).flatten with
    | none => outN g k
    | some o => outN g k ++ [compL g o]

def outF (g : Gr) : List (List Int) := outN g g.objs.length

/-- What has come holds whole components. -/
def Whole2 (g : Gr) (done : List Int) : Prop := ∀ o p, o ∈ done → inOne g o p = true → 0 ≤ p → p < g.objs.length → p ∈ done

/-- There is always one that may come. -/
theorem next_some {g : Gr} (hg : Good g) {done : List Int} (hw : Whole2 g done) {o : Int} (h0 : 0 ≤ o) (h1 : o < g.objs.length) (hn : o ∉ done) : ∃ q, nextH g done = some q := by
  have key : ∀ (m : Nat) (o : Int), 0 ≤ o → o < g.objs.length → o ∉ done → ((nums g.objs.length).filter fun p => decide (p = o) || decide (p ∈ ledL g o)).length ≤ m → ∃ q : Int, 0 ≤ q ∧ q < g.objs.length ∧ q ∉ done ∧ ready g done q = true := by
    intro m
    induction m with
    | zero =>
      intro o h0 h1 hn hl
      have : o ∈ (nums g.objs.length).filter fun p => decide (p = o) || decide (p ∈ ledL g o) := by rw [List.mem_filter, mem_nums]; exact ⟨⟨h0, h1⟩, by simp⟩
      rw [List.length_eq_zero_iff.1 (Nat.le_zero.1 hl)] at this
      simp at this
    | succ m ih =>
      intro o h0 h1 hn hl
      by_cases hr : ready g done o = true
      · exact ⟨o, h0, h1, hn, hr⟩
      · have : ∃ p, p ∈ ledL g o ∧ p ∉ compL g o ∧ p ∉ done := by
          refine Classical.byContradiction fun hc => hr (ready_iff.2 fun p hp hpn => ?_)
          exact Classical.byContradiction fun hd => hc ⟨p, hp, hpn, hd⟩
        obtain ⟨p, hp, hpn, hpd⟩ := this
        have hpr := led_rng hg hp
        refine ih p hpr.1 hpr.2 hpd ?_
        have hno : inOne g o p = false := by
          rw [Bool.eq_false_iff]; exact fun e => hpn (mem_comp.2 ⟨hpr, e⟩)
        have hop : o ∉ ledL g p := fun e => by
          have := inOne_iff.2 (.inr ⟨hp, e⟩)
          rw [hno] at this; cases this
        have hne : o ≠ p := fun e => by subst e; rw [inOne_refl] at hno; cases hno
        have hsub : ((nums g.objs.length).filter fun x => decide (x = p) || decide (x ∈ ledL g p)).Sublist (((nums g.objs.length).filter fun x => decide (x = o) || decide (x ∈ ledL g o)).filter fun x => decide (x = p) || decide (x ∈ ledL g p)) := by
          rw [List.filter_filter]
          have e : (nums g.objs.length).filter (fun x => decide (x = p) || decide (x ∈ ledL g p)) = (nums g.objs.length).filter (fun x => (decide (x = p) || decide (x ∈ ledL g p)) && (decide (x = o) || decide (x ∈ ledL g o))) := by
            refine List.filter_congr fun x _ => ?_
            by_cases hx : x = p
            · subst hx; simp [hp]
            · by_cases hx' : x ∈ ledL g p
              · simp [hx', led_trans hg hp hx']
              · simp [hx, hx']
          rw [e]
          exact List.Sublist.refl _
        have hle := hsub.length_le
        have hmo : o ∈ (nums g.objs.length).filter fun x => decide (x = o) || decide (x ∈ ledL g o) := by rw [List.mem_filter, mem_nums]; exact ⟨⟨h0, h1⟩, by simp⟩
        have hlt : (((nums g.objs.length).filter fun x => decide (x = o) || decide (x ∈ ledL g o)).filter fun x => decide (x = p) || decide (x ∈ ledL g p)).length < ((nums g.objs.length).filter fun x => decide (x = o) || decide (x ∈ ledL g o)).length :=
          List.length_filter_lt_length_iff_exists.2 ⟨o, hmo, by simp [hne, hop]⟩
        omega
  obtain ⟨q, q0, q1, qn, qr⟩ := key _ o h0 h1 hn (Nat.le_refl _)
  have hh := head_head hg q0 q1
  have hm := mem_comp.1 (head_mem q0 q1)
  have : (nextH g done).isSome = true := by
    unfold nextH
    rw [List.find?_isSome]
    refine ⟨headOf g q, mem_nums.2 hm.1, ?_⟩
    simp only [hh.2, Bool.true_and, Bool.and_eq_true]
    refine ⟨?_, ?_⟩
    · have : headOf g q ∉ done := fun e => qn (hw _ _ e (inOne_symm hm.2) q0 q1)
      simp [this]
    · refine ready_iff.2 fun p hp hpn => ?_
      rw [hh.1] at hpn
      refine ready_iff.1 qr p ?_ hpn
      rcases inOne_iff.1 hm.2 with e | e
      · rw [e] at hp; exact hp
      · exact led_trans hg e.1 hp
  exact Option.isSome_iff_exists.1 this

theorem next_spec {g : Gr} {done : List Int} {o : Int} (h : nextH g done = some o) : (0 ≤ o ∧ o < g.objs.length) ∧ isHead g o = true ∧ o ∉ done ∧ ready g done o = true := by
  unfold nextH at h
  have h1 := List.find?_some h
  have h2 := mem_nums.1 (List.mem_of_find?_eq_some h)
  simp only [Bool.and_eq_true, Bool.not_eq_true', decide_eq_false_iff_not] at h1
  exact ⟨h2, h1.1.1, h1.1.2, h1.2⟩

/-- The plain facts on what has come. -/
structure OutOk (g : Gr) (out : List (List Int)) : Prop where
  whole : Whole2 g out.flatten
  nd : out.flatten.Nodup
  rng : ∀ x ∈ out.flatten, 0 ≤ x ∧ x < g.objs.length
  each : ∀ c ∈ out, ∃ o : Int, 0 ≤ o ∧ o < g.objs.length ∧ c = compL g o
  led : ∀ (a : Nat) (c : List Int), out[a]? = some c → ∀ p ∈ c, ∀ q ∈ ledL g p, q ∈ (out.take (a + 1)).flatten

theorem outOk_nil (g : Gr) : OutOk g [] := ⟨fun o p h => by simp at h, by simp, by simp, by simp, by simp⟩

theorem led_one {g : Gr} (hg : Good g) {o p q : Int} (h : inOne g o p = true) (hq : q ∈ ledL g p) : q ∈ ledL g o := by
  rcases inOne_iff.1 h with rfl | h
  · exact hq
  · exact led_trans hg h.1 hq

theorem outOk_step {g : Gr} (hg : Good g) {out : List (List Int)} (h : OutOk g out) {o : Int} (ho : nextH g out.flatten = some o) : OutOk g (out ++ [compL g o]) := by
  obtain ⟨hr, hh, hn, hy⟩ := next_spec ho
  have hfl : (out ++ [compL g o]).flatten = out.flatten ++ compL g o := by simp
  refine ⟨?_, ?_, ?_, ?_, ?_⟩
  · intro x p hx hi p0 p1
    rw [hfl, List.mem_append] at hx ⊢
    rcases hx with hx | hx
    · exact .inl (h.whole x p hx hi p0 p1)
    · exact .inr (mem_comp.2 ⟨⟨p0, p1⟩, inOne_trans hg (mem_comp.1 hx).2 hi⟩)
  · rw [hfl, List.nodup_append]
    refine ⟨h.nd, comp_nodup g o, fun a ha b hb e => ?_⟩
    subst e
    exact hn (h.whole a o ha (inOne_symm (mem_comp.1 hb).2) hr.1 hr.2)
  · intro x hx
    rw [hfl, List.mem_append] at hx
    rcases hx with hx | hx
    · exact h.rng x hx
    · exact (mem_comp.1 hx).1
  · intro c hc
    rw [List.mem_append] at hc
    rcases hc with hc | hc
    · exact h.each c hc
    · simp at hc; exact ⟨o, hr.1, hr.2, hc⟩
  · intro a c hc p hp q hq
    by_cases hlt : a < out.length
    · rw [List.getElem?_append_left hlt] at hc
      rw [List.take_append_of_le_length (by omega)]
      exact h.led a c hc p hp q hq
    · have hl := (List.getElem?_eq_some_iff.1 hc).1
      simp at hl
      obtain rfl : a = out.length := by omega
      rw [List.getElem?_append_right (Nat.le_refl _)] at hc
      simp at hc
      subst hc
      rw [List.take_of_length_le (by simp), hfl, List.mem_append]
      have hpo := (mem_comp.1 hp).2
      have hqo := led_one hg hpo hq
      by_cases hqc : q ∈ compL g o
      · exact .inr hqc
      · exact .inl (ready_iff.1 hy q hqo hqc)

theorem outN_ok {g : Gr} (hg : Good g) : ∀ k, OutOk g (outN g k)
  | 0 => outOk_nil g
  | k + 1 => by
    simp only [outN]
    cases ho : nextH g (outN g k).flatten with
    | none => exact outN_ok hg k
    | some o => exact outOk_step hg (outN_ok hg k) ho

theorem flat_len {g : Gr} {out : List (List Int)} (h : OutOk g out) : out.flatten.length ≤ g.objs.length := nodup_length h.nd h.rng

theorem outs_le {g : Gr} {out : List (List Int)} (h : OutOk g out) : out.length ≤ out.flatten.length := by
  have key : ∀ l : List (List Int), (∀ c ∈ l, c ≠ []) → l.length ≤ l.flatten.length := by
    intro l
    induction l with
    | nil => simp
    | cons c l ih =>
      intro hc
      have h1 := ih fun x hx => hc x (List.mem_cons_of_mem _ hx)
      have h2 : 0 < c.length := List.length_pos_iff.2 (hc c (by simp))
      simp only [List.flatten_cons, List.length_append, List.length_cons]
      omega
  refine key out fun c hc => ?_
  obtain ⟨o, h0, h1, rfl⟩ := h.each c hc
  intro e
  have := comp_self h0 h1
  rw [e] at this
  simp at this

theorem outN_stable (g : Gr) {k : Nat} (h : nextH g (outN g k).flatten = none) : ∀ m, outN g (k + m) = outN g k
  | 0 => rfl
  | m + 1 => by
    have ih := outN_stable g h m
    show outN g (k + m + 1) = _
    simp only [outN]
    rw [ih, h]

/-- Where all has come, that is all. -/
theorem outF_eq {g : Gr} (hg : Good g) {k : Nat} (hk : (outN g k).length = k) (h : (outN g k).flatten.length = g.objs.length ∨ ∀ o : Int, 0 ≤ o → o < g.objs.length → o ∈ (outN g k).flatten) : outF g = outN g k := by
  have hok := outN_ok hg k
  have hle := outs_le hok
  have hfl := flat_len hok
  have hall : ∀ o : Int, 0 ≤ o → o < g.objs.length → o ∈ (outN g k).flatten := by
    rcases h with h | h
    · intro o h0 h1
      refine Classical.byContradiction fun hc => ?_
      have hnd : (o :: (outN g k).flatten).Nodup := List.nodup_cons.2 ⟨hc, hok.nd⟩
      have := nodup_length hnd (N := g.objs.length) (by
        intro x hx
        rcases List.mem_cons.1 hx with rfl | hx
        · exact ⟨h0, h1⟩
        · exact hok.rng x hx)
      simp at this
      simp at h
      omega
    · exact h
  have hnone : nextH g (outN g k).flatten = none := by
    cases hx : nextH g (outN g k).flatten with
    | none => rfl
    | some o => have hs := next_spec hx; exact absurd (hall o hs.1.1 hs.1.2) hs.2.2.1
  have := outN_stable g hnone (g.objs.length - k)
  rw [show k + (g.objs.length - k) = g.objs.length by omega] at this
  exact this

theorem nodup_sub_len : ∀ (l l' : List Int), l.Nodup → (∀ x ∈ l, x ∈ l') → l.length ≤ l'.length
  | [], _, _, _ => by simp
  | x :: l, l', hn, hs => by
    have hx := hs x (by simp)
    have hn' := List.nodup_cons.1 hn
    have h1 := nodup_sub_len l (l'.erase x) hn'.2 (fun y hy => by
      have hne : y ≠ x := fun e => hn'.1 (e ▸ hy)
      exact (List.mem_erase_of_ne hne).2 (hs y (List.mem_cons_of_mem _ hy)))
    have h2 := List.length_erase_of_mem hx
    have h3 := List.length_pos_of_mem hx
    simp only [List.length_cons]
    omega

/-- In the end all have come. -/
theorem out_next {g : Gr} (hg : Good g) (k : Nat) (h : (outN g k).flatten.length < g.objs.length) : ∃ o, nextH g (outN g k).flatten = some o := by
  have hok := outN_ok hg k
  have : ∃ o : Int, (0 ≤ o ∧ o < g.objs.length) ∧ o ∉ (outN g k).flatten := by
    refine Classical.byContradiction fun hc => ?_
    have hsub : ∀ x ∈ nums g.objs.length, x ∈ (outN g k).flatten := fun x hx => Classical.byContradiction fun hn => hc ⟨x, mem_nums.1 hx, hn⟩
    have hnn : (nums g.objs.length).Nodup := by rw [List.nodup_iff_pairwise_ne]; exact (nums_lt _).imp (fun h => by omega)
    have := nodup_sub_len _ _ hnn hsub
    rw [nums_len] at this
    omega
  obtain ⟨o, hr, hn⟩ := this
  exact next_some hg hok.whole hr.1 hr.2 hn

theorem outN_len {g : Gr} (hg : Good g) : ∀ k, (outN g k).flatten.length < g.objs.length → (outN g k).length = k ∧ (outN g (k + 1)).length = k + 1
  | 0, h => by
    obtain ⟨o, ho⟩ := out_next hg 0 h
    refine ⟨rfl, ?_⟩
    simp only [outN] at ho ⊢
    rw [ho]; simp
  | k + 1, h => by
    obtain ⟨o, ho⟩ := out_next hg (k + 1) h
    have hk : (outN g (k + 1)).length = k + 1 := by
      by_cases hlt : (outN g k).flatten.length < g.objs.length
      · exact (outN_len hg k hlt).2
      · exfalso
        have : nextH g (outN g k).flatten = none := by
          cases hx : nextH g (outN g k).flatten with
          | none => rfl
          | some q =>
            have hs := flat_len (outOk_step hg (outN_ok hg k) hx)
            have hm := comp_self (next_spec hx).1.1 (next_spec hx).1.2
            have : 0 < (compL g q).length := List.length_pos_of_mem hm
            simp at hs hlt
            omega
        have := outN_stable g this 1
        rw [this] at h
        omega
    refine ⟨hk, ?_⟩
    show (outN g (k + 1 + 1)).length = _
    rw [outN, ho]
    simp [hk]

end Go.Proofs.Ytohofkfajmeohaa
