/- Plain: who keeps whom, by climbing from keeper to keeper: what holds while the passes go on, and in the end. -/
import Derived.Test.YtkoidbekfjlfjaaMem
namespace Go.Proofs.Ytkoidbekfjlfjaa
set_option linter.unusedSimpArgs false
set_option linter.unusedVariables false

def upN (f : Nat → Nat) : Nat → Nat → Nat
  | 0, n => n
  | j + 1, n => upN f j (f n)

/-- x stands on the chain of n. -/
def Anc (f : Nat → Nat) (n x : Nat) : Prop := ∃ j, upN f j n = x

theorem Anc.refl (f : Nat → Nat) (n : Nat) : Anc f n n := ⟨0, rfl⟩
theorem Anc.step {f : Nat → Nat} {n x : Nat} (h : Anc f (f n) x) : Anc f n x := by
  obtain ⟨j, hj⟩ := h; exact ⟨j + 1, hj⟩
theorem anc_iff {f : Nat → Nat} {n x : Nat} : Anc f n x ↔ n = x ∨ Anc f (f n) x := by
  constructor
  · rintro ⟨j, hj⟩
    cases j with
    | zero => exact .inl hj
    | succ j => exact .inr ⟨j, hj⟩
  · rintro (rfl | h)
    · exact Anc.refl _ _
    · exact h.step

/-- Along a chain. -/
theorem anc_ind {f : Nat → Nat} {x : Nat} (P : Nat → Prop) (h0 : P x) (h1 : ∀ n, Anc f (f n) x → P (f n) → P n) : ∀ n, Anc f n x → P n := by
  rintro n ⟨j, hj⟩
  induction j generalizing n with
  | zero => have hj : n = x := hj; rw [hj]; exact h0
  | succ j ih => exact h1 n ⟨j, hj⟩ (ih (f n) hj)

theorem Anc.trans {f : Nat → Nat} {n x y : Nat} (h : Anc f n x) (h2 : Anc f x y) : Anc f n y :=
  anc_ind (x := x) (fun n => Anc f n y) h2 (fun n _ ih => ih.step) n h

theorem Anc.fix {f : Nat → Nat} {n x : Nat} (h : Anc f n x) (hf : f n = n) : n = x := by
  obtain ⟨j, hj⟩ := h
  have : ∀ j, upN f j n = n := by
    intro j
    induction j with
    | zero => rfl
    | succ j ih => rw [upN, hf]; exact ih
  rw [← hj, this j]

theorem Anc.le {f : Nat → Nat} (hm : ∀ n, n ≤ f n) {n x : Nat} (h : Anc f n x) : n ≤ x :=
  anc_ind (x := x) (fun n => n ≤ x) (Nat.le_refl _) (fun n _ ih => Nat.le_trans (hm n) ih) n h

theorem anc_lin {f : Nat → Nat} {n x y : Nat} (h : Anc f n x) (h2 : Anc f n y) : Anc f x y ∨ Anc f y x := by
  refine anc_ind (x := x) (fun n => Anc f n y → Anc f x y ∨ Anc f y x) (fun h => .inl h) (fun n hx ih h => ?_) n h h2
  rcases anc_iff.1 h with e | e
  · subst e; exact .inr hx.step
  · exact ih e

theorem anc_le_anc {f : Nat → Nat} (hm : ∀ n, n ≤ f n) {n x y : Nat} (h : Anc f n x) (h2 : Anc f n y) (hle : x ≤ y) : Anc f x y := by
  rcases anc_lin h h2 with e | e
  · exact e
  · have := e.le hm
    obtain rfl : x = y := by omega
    exact Anc.refl _ _

/-- One keeper changed. -/
def upd (f : Nat → Nat) (n k : Nat) : Nat → Nat := fun m => if m = n then k else f m

theorem upd_self (f : Nat → Nat) (n k : Nat) : upd f n k n = k := by simp [upd]
theorem upd_ne {f : Nat → Nat} {n k m : Nat} (h : m ≠ n) : upd f n k m = f m := by simp [upd, h]
theorem upd_back (f : Nat → Nat) (n k : Nat) : upd (upd f n k) n (f n) = f := by
  funext m; by_cases e : m = n
  · subst e; simp [upd]
  · simp [upd, e]

theorem anc_low {f : Nat → Nat} (hm : ∀ n, n ≤ f n) {n k m x : Nat} (h : Anc f m x) (hx : x ≤ n) : Anc (upd f n k) m x := by
  refine anc_ind (x := x) (fun m => Anc (upd f n k) m x) (Anc.refl _ _) (fun m hmx ih => ?_) m h
  by_cases e : m = n
  · subst e
    have := hmx.le hm
    have := hm m
    obtain rfl : x = m := by omega
    exact Anc.refl _ _
  · refine Anc.step ?_
    rw [upd_ne e]; exact ih

theorem anc_low' {f : Nat → Nat} {n k m x : Nat} (hm : ∀ m, m ≤ upd f n k m) (h : Anc (upd f n k) m x) (hx : x ≤ n) : Anc f m x := by
  have := anc_low (k := f n) hm h hx
  rwa [upd_back] at this

theorem anc_high {f : Nat → Nat} (hm : ∀ n, n ≤ f n) {n k m x : Nat} (h : Anc f m x) (hn : n < m) : Anc (upd f n k) m x := by
  refine anc_ind (x := x) (fun m => n < m → Anc (upd f n k) m x) (fun _ => Anc.refl _ _) (fun m _ ih hn => ?_) m h hn
  refine Anc.step ?_
  rw [upd_ne (by omega)]
  exact ih (by have := hm m; omega)

theorem anc_high' {f : Nat → Nat} {n k m x : Nat} (hm : ∀ m, m ≤ upd f n k m) (h : Anc (upd f n k) m x) (hn : n < m) : Anc f m x := by
  have := anc_high (k := f n) hm h hn
  rwa [upd_back] at this

theorem anc_off {f : Nat → Nat} {n k m x : Nat} (hn : ¬ Anc f m n) (h : Anc f m x) : Anc (upd f n k) m x := by
  refine anc_ind (x := x) (fun m => ¬ Anc f m n → Anc (upd f n k) m x) (fun _ => Anc.refl _ _) (fun m _ ih hn => ?_) m h hn
  refine Anc.step ?_
  rw [upd_ne (fun e => hn (by rw [e]; exact Anc.refl _ _))]
  exact ih (fun e => hn e.step)

theorem anc_off' {f : Nat → Nat} {n k m x : Nat} (hn : ¬ Anc f m n) (h : Anc (upd f n k) m x) : Anc f m x := by
  refine anc_ind (x := x) (fun m => ¬ Anc f m n → Anc f m x) (fun _ => Anc.refl _ _) (fun m _ ih hn => ?_) m h hn
  have e : m ≠ n := fun e => hn (by rw [e]; exact Anc.refl _ _)
  rw [upd_ne e] at ih
  exact (ih (fun e => hn e.step)).step

/-- n can be come to from r without x. -/
def Av (E : Nat → Nat → Prop) (r x n : Nat) : Prop := ∀ P : Nat → Prop, (r ≠ x → P r) → (∀ p m, P p → E p m → m ≠ x → P m) → P n

theorem Av.root {E : Nat → Nat → Prop} {r x : Nat} (h : r ≠ x) : Av E r x r := fun P h0 _ => h0 h
theorem Av.next {E : Nat → Nat → Prop} {r x p m : Nat} (h : Av E r x p) (he : E p m) (hn : m ≠ x) : Av E r x m := fun P h0 h1 => h1 p m (h P h0 h1) he hn

/-- A way from k to m on which all behind k are below k. -/
def Und (E : Nat → Nat → Prop) (k m : Nat) : Prop := ∀ P : Nat → Prop, (∀ m, E k m → m < k → P m) → (∀ p m, P p → E p m → m < k → P m) → P m

theorem Und.one {E : Nat → Nat → Prop} {k m : Nat} (h : E k m) (hl : m < k) : Und E k m := fun P h0 _ => h0 m h hl
theorem Und.next {E : Nat → Nat → Prop} {k p m : Nat} (h : Und E k p) (he : E p m) (hl : m < k) : Und E k m := fun P h0 h1 => h1 p m (h P h0 h1) he hl
theorem Und.lt {E : Nat → Nat → Prop} {k m : Nat} (h : Und E k m) : m < k := h (fun m => m < k) (fun _ _ h => h) (fun _ _ _ _ h => h)
theorem Und.trans {E : Nat → Nat → Prop} {x k m : Nat} (h1 : Und E x k) (h2 : Und E k m) : Und E x m := by
  have hlt := h1.lt
  exact h2 (fun m => Und E x m) (fun m he hl => h1.next he (by omega)) (fun p m hp he hl => hp.next he (by omega))
theorem Und.av {E : Nat → Nat → Prop} {r x k m : Nat} (h : Und E k m) (hx : k < x) (ha : Av E r x k) : Av E r x m :=
  h (fun m => Av E r x m) (fun m he hl => ha.next he (by omega)) (fun p m hp he hl => hp.next he (by omega))

/-- What holds of the keepers, where all from c on are done. -/
structure KOk (E : Nat → Nat → Prop) (r c : Nat) (kn : Nat → Prop) (f : Nat → Nat) : Prop where
  bnd : ∀ n, kn n → n ≤ r
  top : f r = r
  unk : ∀ n, ¬ kn n → f n = n
  up : ∀ n, n < r → kn n → n < f n ∧ kn (f n)
  seen : ∀ n, c ≤ n → n ≤ r → kn n
  link : ∀ n, n < r → kn n → Und E (f n) n
  dom : ∀ n x, n < r → kn n → ¬ Av E r x n → Anc f n x
  low : ∀ m x, m < r → kn m → (∀ p, E p m → kn p → Anc f p x) → Anc f m x
  par : ∀ m p x, m < r → kn m → E p m → m < p → Anc f m x → x ≠ m → (x < c ∨ c ≤ m) → Anc f p x

theorem KOk.mon {E : Nat → Nat → Prop} {r c : Nat} {kn : Nat → Prop} {f : Nat → Nat} (h : KOk E r c kn f) : ∀ n, n ≤ f n := by
  intro n
  by_cases hk : kn n
  · rcases Nat.lt_or_ge n r with hl | hl
    · exact Nat.le_of_lt (h.up n hl hk).1
    · obtain rfl : n = r := by have := h.bnd n hk; omega
      rw [h.top]; exact Nat.le_refl _
  · rw [h.unk n hk]; exact Nat.le_refl _

theorem KOk.knf {E : Nat → Nat → Prop} {r c : Nat} {kn : Nat → Prop} {f : Nat → Nat} (h : KOk E r c kn f) {n : Nat} (hk : kn n) : kn (f n) := by
  rcases Nat.lt_or_ge n r with hl | hl
  · exact (h.up n hl hk).2
  · obtain rfl : n = r := by have := h.bnd n hk; omega
    rw [h.top]; exact hk

theorem KOk.known {E : Nat → Nat → Prop} {r c : Nat} {kn : Nat → Prop} {f : Nat → Nat} (h : KOk E r c kn f) {n x : Nat} (ha : Anc f n x) (hk : kn n) : kn x :=
  anc_ind (x := x) (fun n => kn n → kn x) (fun h => h) (fun n _ ih hk => ih (h.knf hk)) n ha hk

theorem KOk.und {E : Nat → Nat → Prop} {r c : Nat} {kn : Nat → Prop} {f : Nat → Nat} (h : KOk E r c kn f) {n x : Nat} (ha : Anc f n x) (hk : kn n) : n = x ∨ Und E x n := by
  refine anc_ind (x := x) (fun n => kn n → n = x ∨ Und E x n) (fun _ => .inl rfl) (fun n hx ih hk => ?_) n ha hk
  rcases Nat.lt_or_ge n r with hl | hl
  · have h1 := h.link n hl hk
    rcases ih (h.knf hk) with e | e
    · rw [e] at h1; exact .inr h1
    · exact .inr (e.trans h1)
  · obtain rfl : n = r := by have := h.bnd n hk; omega
    rw [h.top] at hx
    exact .inl (hx.fix h.top)

/-- The start: the roots alone are known. -/
theorem kok_start (E : Nat → Nat → Prop) (r : Nat) : KOk E r r (fun n => n = r) (fun n => n) := by
  refine ⟨?_, rfl, fun _ _ => rfl, ?_, ?_, ?_, ?_, ?_, ?_⟩
  · intro n h; omega
  · intro n h1 h2; omega
  · intro n h1 h2; show n = r; omega
  · intro n h1 h2; omega
  · intro n x h1 h2; omega
  · intro n x h1 h2; omega
  · intro m p x h1 h2; omega

/-- A new pass. -/
theorem KOk.again {E : Nat → Nat → Prop} {r : Nat} {kn : Nat → Prop} {f : Nat → Nat} (h : KOk E r 0 kn f) : KOk E r r kn f :=
  ⟨h.bnd, h.top, h.unk, h.up, fun n _ hr => h.seen n (Nat.zero_le _) hr, h.link, h.dom, h.low, fun m p x h1 h2 h3 h4 h5 h6 _ => h.par m p x h1 h2 h3 h4 h5 h6 (.inr (Nat.zero_le _))⟩

/-- One more is done. -/
theorem KOk.done {E : Nat → Nat → Prop} {r n : Nat} {kn : Nat → Prop} {f : Nat → Nat} (h : KOk E r (n + 1) kn f) (hn : n < r) (hE : ∀ p m, E p m → p ≤ r ∧ m < r) (hP : ∀ m, m < r → ∃ p, m < p ∧ E p m)
    {k : Nat} (hk : ∀ x, Anc f k x ↔ ∀ p, E p n → kn p → Anc f p x) : n < k ∧ kn k ∧ (kn n → Anc f (f n) k) ∧ KOk E r n (fun m => m = n ∨ kn m) (upd f n k) := by
  have hm := h.mon
  have hpk : ∀ p, E p n → n < p → kn p := fun p he hl => h.seen p (by omega) (hE p n he).1
  obtain ⟨q, hql, hqe⟩ := hP n hn
  have hqk := hpk q hqe hql
  have haq : Anc f q k := (hk k).1 (Anc.refl _ _) q hqe hqk
  have hnk : n < k := by have := haq.le hm; omega
  have hkk : kn k := h.known haq hqk
  have hal : kn n → Anc f (f n) k := fun hkn => by
    rcases anc_iff.1 (h.low n k hn hkn ((hk k).1 (Anc.refl _ _))) with e | e
    · omega
    · exact e
  have hm' : ∀ m, m ≤ upd f n k m := by
    intro m
    by_cases e : m = n
    · subst e; rw [upd_self]; omega
    · rw [upd_ne e]; exact hm m
  -- less than before
  have hsub : kn n → ∀ m x, Anc (upd f n k) m x → Anc f m x := by
    intro hkn m x ha
    refine anc_ind (f := upd f n k) (x := x) (fun m => Anc f m x) (Anc.refl _ _) (fun m _ ih => ?_) m ha
    by_cases e : m = n
    · subst e
      rw [upd_self] at ih
      exact ((hal hkn).trans ih).step
    · rw [upd_ne e] at ih
      exact ih.step
  have hoff : ¬ kn n → ∀ m, kn m → ¬ Anc f m n := fun hkn m hkm ha => hkn (h.known ha hkm)
  have hup : ∀ x, Anc f k x → Anc (upd f n k) n x := fun x ha => by
    refine Anc.step ?_
    rw [upd_self]
    exact anc_high hm ha hnk
  -- who keeps n truly
  have hdn : ∀ x, ¬ Av E r x n → x ≠ n → Anc f k x := by
    intro x hx hxn
    refine (hk x).2 fun p he hkp => ?_
    have hxp : ¬ Av E r x p := fun ha => hx (ha.next he (fun e => hxn e.symm))
    rcases Nat.lt_or_ge p r with hl | hl
    · exact h.dom p x hl hkp hxp
    · obtain rfl : p = r := by have := (hE p n he).1; omega
      have : p = x := Classical.byContradiction fun hne => hxp (Av.root hne)
      rw [this]; exact Anc.refl _ _
  refine ⟨hnk, hkk, hal, ⟨?_, ?_, ?_, ?_, ?_, ?_, ?_, ?_, ?_⟩⟩
  · rintro m (rfl | hkm)
    · omega
    · exact h.bnd m hkm
  · rw [upd_ne (by omega)]; exact h.top
  · intro m hkm
    have h1 := not_or.1 hkm
    rw [upd_ne h1.1]; exact h.unk m h1.2
  · rintro m hmr hkm
    by_cases e : m = n
    · subst e; rw [upd_self]; exact ⟨hnk, .inr hkk⟩
    · rw [upd_ne e]
      have hkm' : kn m := hkm.resolve_left e
      exact ⟨(h.up m hmr hkm').1, .inr (h.up m hmr hkm').2⟩
  · intro m hml hmr
    by_cases e : m = n
    · exact .inl e
    · exact .inr (h.seen m (by omega) hmr)
  · intro m hmr hkm
    by_cases e : m = n
    · subst e
      rw [upd_self]
      rcases h.und haq hqk with e | e
      · subst e; exact Und.one hqe hnk
      · exact e.next hqe hnk
    · rw [upd_ne e]; exact h.link m hmr (hkm.resolve_left e)
  · intro m x hmr hkm hx
    by_cases e : m = n
    · subst e
      by_cases ex : x = m
      · subst ex; exact Anc.refl _ _
      · exact hup x (hdn x hx ex)
    · have hkm' : kn m := hkm.resolve_left e
      have ha := h.dom m x hmr hkm' hx
      by_cases hmn : Anc f m n
      · rcases Nat.lt_or_ge n x with hl | hl
        · have hu : Und E n m := (h.und hmn hkm').resolve_left e
          have hxn : ¬ Av E r x n := fun hav => hx (hu.av hl hav)
          exact (anc_low hm hmn (Nat.le_refl _)).trans (hup x (hdn x hxn (by omega)))
        · exact anc_low hm ha hl
      · exact anc_off hmn ha
  · intro m x hmr hkm hall
    by_cases e : m = n
    · subst e
      refine hup x ((hk x).2 fun p he hkp => ?_)
      have ha := hall p he (.inr hkp)
      by_cases hkn : kn m
      · exact hsub hkn p x ha
      · exact anc_off' (hoff hkn p hkp) ha
    · have hkm' : kn m := hkm.resolve_left e
      by_cases hkn : kn n
      · have ha := h.low m x hmr hkm' (fun p he hkp => hsub hkn p x (hall p he (.inr hkp)))
        by_cases hmn : Anc f m n
        · rcases Nat.lt_or_ge n x with hl | hl
          · obtain ⟨p, hpl, hpe⟩ := hP m hmr
            have hpn := h.par m p n hmr hkm' hpe hpl hmn (fun e' => e e'.symm) (.inl (by omega))
            have hkp : kn p := Classical.byContradiction fun hc => by
              have := hpn.fix (h.unk p hc)
              subst this
              exact hc hkn
            have h1 := hall p hpe (.inr hkp)
            have h2 := anc_low (k := k) hm hpn (Nat.le_refl _)
            exact (anc_low hm hmn (Nat.le_refl _)).trans (anc_le_anc hm' h2 h1 (by omega))
          · exact anc_low hm ha hl
        · exact anc_off hmn ha
      · exact anc_off (hoff hkn m hkm') (h.low m x hmr hkm' (fun p he hkp => anc_off' (hoff hkn p hkp) (hall p he (.inr hkp))))
  · intro m p x hmr hkm he hmp ha hxm hc
    by_cases e : m = n
    · subst e
      rcases anc_iff.1 ha with e2 | e2
      · exact absurd e2.symm hxm
      · rw [upd_self] at e2
        exact anc_high hm ((hk x).1 (anc_high' hm' e2 hnk) p he (hpk p he hmp)) hmp
    · have hkm' : kn m := hkm.resolve_left e
      rcases Nat.lt_or_ge n m with hl | hl
      · exact anc_high hm (h.par m p x hmr hkm' he hmp (anc_high' hm' ha hl) hxm (.inr (by omega))) (by omega)
      · have hxn : x < n := by omega
        exact anc_low hm (h.par m p x hmr hkm' he hmp (anc_low' hm' ha (by omega)) hxm (.inl (by omega))) (by omega)

/-- In the end: the chain has just who keeps truly. -/
theorem KOk.fin {E : Nat → Nat → Prop} {r : Nat} {kn : Nat → Prop} {f : Nat → Nat} (h : KOk E r 0 kn f) (hE : ∀ p m, E p m → p ≤ r ∧ m < r)
    (hfix : ∀ n, n < r → ∀ x, Anc f (f n) x ↔ ∀ p, E p n → kn p → Anc f p x) {n : Nat} (hn : n < r) (x : Nat) : Anc f n x ↔ ¬ Av E r x n := by
  constructor
  · intro ha hav
    refine hav (fun m => ¬ Anc f m x) (fun hne ha => hne (ha.fix h.top)) (fun p m hp he hmx ha => ?_) ha
    rcases anc_iff.1 ha with e | e
    · exact hmx e
    · exact hp ((hfix m (hE p m he).2 x).1 e p he (h.seen p (Nat.zero_le _) (hE p m he).1))
  · exact h.dom n x hn (h.seen n (Nat.zero_le _) (by omega))

end Go.Proofs.Ytkoidbekfjlfjaa
