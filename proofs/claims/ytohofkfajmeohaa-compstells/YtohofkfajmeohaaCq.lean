/- Plain: ways by way of lesser objects. -/
import Derived.Test.YtohofkfajmeohaaProg
import Derived.Test.YtohofkfajmeohaaMem
import Derived.Test.YtohofkfajmeohaaCa
namespace Go.Proofs.Ytohofkfajmeohaa
set_option linter.unusedSimpArgs false
set_option linter.unusedVariables false
open Go.RowKit

/-- Is there a reference from x to y? -/
def refB (g : Gr) (x y : Nat) : Bool := refers (fieldsOf g x) y

/-- Is there a way from x to y over objects below k? -/
def PN (g : Gr) : Nat → Nat → Nat → Prop
  | 0, x, y => refB g x y = true
  | k + 1, x, y => PN g k x y ∨ (PN g k x k ∧ PN g k k y)

theorem PN_mono (g : Gr) {k x y : Nat} (h : PN g k x y) : ∀ m, PN g (k + m) x y
  | 0 => h
  | m + 1 => .inl (PN_mono g h m)

theorem PN_trans (g : Gr) : ∀ (m i x j : Nat), x < m → PN g m i x → PN g m x j → PN g m i j
  | 0, _, _, _, h, _, _ => by omega
  | m + 1, i, x, j, hx, h1, h2 => by
    by_cases e : x = m
    · subst e
      have a1 : PN g x i x := by rcases h1 with h | h; exact h; exact h.1
      have a2 : PN g x x j := by rcases h2 with h | h; exact h; exact h.2
      exact .inr ⟨a1, a2⟩
    · have hlt : x < m := by omega
      rcases h1 with h1 | ⟨h1, h1'⟩
      · rcases h2 with h2 | ⟨h2, h2'⟩
        · exact .inl (PN_trans g m i x j hlt h1 h2)
        · exact .inr ⟨PN_trans g m i x m hlt h1 h2, h2'⟩
      · rcases h2 with h2 | ⟨h2, h2'⟩
        · exact .inr ⟨h1, PN_trans g m m x j hlt h1' h2⟩
        · exact .inr ⟨h1, h2'⟩

theorem refB_led {g : Gr} (hg : Good g) {x y : Nat} (h : refB g x y = true) : (y : Int) ∈ ledL g x := led_step ((refers_iff (refsOk_fields hg x) y).1 h)

theorem PN_led {g : Gr} (hg : Good g) : ∀ (k x y : Nat), PN g k x y → (y : Int) ∈ ledL g x
  | 0, x, y, h => refB_led hg h
  | k + 1, x, y, h => by
    rcases h with h | h
    · exact PN_led hg k x y h
    · exact led_trans hg (PN_led hg k x k h.1) (PN_led hg k k y h.2)

theorem led_PN {g : Gr} (hg : Good g) {x y : Nat} (h : (y : Int) ∈ ledL g x) : PN g g.objs.length x y := by
  have key := led_ind hg (i := (x : Int)) (fun z => 0 ≤ z → z < g.objs.length → PN g g.objs.length x z.toNat) ?_ ?_ y h
  · have hr := led_rng hg h
    have := key hr.1 hr.2
    rwa [Int.toNat_natCast] at this
  · intro z hz h0 h1
    have : refB g x z.toNat = true := by
      unfold refB
      rw [refers_iff (refsOk_fields hg x)]
      rwa [show ((z.toNat : Nat) : Int) = z by omega]
    have := PN_mono g (k := 0) this g.objs.length
    rwa [Nat.zero_add] at this
  · intro p q hp hP hq h0 h1
    have hr := led_rng hg hp
    have h2 : refB g p.toNat q.toNat = true := by
      unfold refB
      rw [show ((p.toNat : Nat) : Int) = p by omega, refers_iff (refsOk_fields hg p)]
      rwa [show ((q.toNat : Nat) : Int) = q by omega]
    have h3 := PN_mono g (k := 0) h2 g.objs.length
    rw [Nat.zero_add] at h3
    exact PN_trans g g.objs.length x p.toNat q.toNat (by omega) (hP hr.1 hr.2) h3

/-- What holds of the table in round k, at (i, j). -/
structure Tab (g : Gr) (k i j : Nat) (M : Nat → Nat → Bool) : Prop where
  sound : ∀ x y, x < g.objs.length → y < g.objs.length → M x y = true → (y : Int) ∈ ledL g x
  old : ∀ x y, x < g.objs.length → y < g.objs.length → PN g k x y → M x y = true
  new : ∀ x y, x < g.objs.length → y < g.objs.length → (x < i ∨ x = i ∧ y < j) → PN g (k + 1) x y → M x y = true

theorem Tab.step {g : Gr} (hg : Good g) {k i j : Nat} {M : Nat → Nat → Bool} (h : Tab g k i j M) (hk : k < g.objs.length) (hi : i < g.objs.length) (hj : j < g.objs.length) : Tab g k i (j + 1) (fun x y => M x y || (decide (x = i ∧ y = j) && (M i k && M k j))) := by
  refine ⟨fun x y hx hy hm => ?_, fun x y hx hy hp => ?_, fun x y hx hy hxy hp => ?_⟩
  · simp only [Bool.or_eq_true, Bool.and_eq_true, decide_eq_true_eq] at hm
    rcases hm with hm | ⟨⟨rfl, rfl⟩, h1, h2⟩
    · exact h.sound x y hx hy hm
    · exact led_trans hg (h.sound _ _ hi hk h1) (h.sound _ _ hk hj h2)
  · simp [h.old x y hx hy hp]
  · by_cases e : x = i ∧ y = j
    · obtain ⟨rfl, rfl⟩ := e
      rcases hp with hp | hp
      · simp [h.old x y hx hy hp]
      · simp [h.old _ _ hi hk hp.1, h.old _ _ hk hj hp.2]
    · have := h.new x y hx hy (by omega) hp
      simp [this]

theorem Tab.row {g : Gr} {k i : Nat} {M : Nat → Nat → Bool} (h : Tab g k i g.objs.length M) : Tab g k (i + 1) 0 M :=
  ⟨h.sound, h.old, fun x y hx hy hxy hp => h.new x y hx hy (by omega) hp⟩

theorem Tab.round {g : Gr} {k : Nat} {M : Nat → Nat → Bool} (h : Tab g k g.objs.length 0 M) : Tab g (k + 1) 0 0 M :=
  ⟨h.sound, fun x y hx hy hp => h.new x y hx hy (by omega) hp, fun x y hx hy hxy => by omega⟩

theorem Tab.done {g : Gr} (hg : Good g) {M : Nat → Nat → Bool} (h : Tab g g.objs.length 0 0 M) {x y : Nat} (hx : x < g.objs.length) (hy : y < g.objs.length) : M x y = decide ((y : Int) ∈ ledL g x) := by
  rw [Bool.eq_iff_iff, decide_eq_true_eq]
  exact ⟨h.sound x y hx hy, fun hm => h.old x y hx hy (led_PN hg hm)⟩

theorem tab_start {g : Gr} (hg : Good g) : Tab g 0 0 0 (refB g) :=
  ⟨fun x y _ _ h => refB_led hg h, fun x y _ _ h => h, fun x y _ _ hxy => by omega⟩

/-- The cells of a table of n by n. -/
def TabAt (n : Nat) (vs : List Value) (M : Nat → Nat → Bool) : Prop := ∀ x y, x < n → y < n → vs[x * n + y]? = some (.bool (M x y))

theorem idx_lt {n x y : Nat} (hx : x < n) (hy : y < n) : x * n + y < n * n := by
  have h1 : (x + 1) * n ≤ n * n := Nat.mul_le_mul_right n (by omega)
  rw [Nat.add_mul, Nat.one_mul] at h1
  omega

theorem idx_inj {n x y x' y' : Nat} (hy : y < n) (hy' : y' < n) (h : x * n + y = x' * n + y') : x = x' ∧ y = y' := by
  have h1 : (x * n + y) / n = x := by rw [Nat.mul_comm, Nat.mul_add_div (by omega), Nat.div_eq_of_lt hy, Nat.add_zero]
  have h2 : (x' * n + y') / n = x' := by rw [Nat.mul_comm, Nat.mul_add_div (by omega), Nat.div_eq_of_lt hy', Nat.add_zero]
  have e : x = x' := by rw [← h1, ← h2, h]
  subst e
  exact ⟨rfl, by omega⟩

theorem TabAt.set {n : Nat} {vs : List Value} {M : Nat → Nat → Bool} (h : TabAt n vs M) (hl : vs.length = n * n) {i j : Nat} (hi : i < n) (hj : j < n) (b : Bool) : TabAt n (vs.set (i * n + j) (.bool b)) (fun x y => if x = i ∧ y = j then b else M x y) := by
  intro x y hx hy
  by_cases e : x = i ∧ y = j
  · obtain ⟨rfl, rfl⟩ := e
    rw [List.getElem?_set_self (by rw [hl]; exact idx_lt hx hy)]
    simp
  · rw [List.getElem?_set_ne (fun e' => e (by have := idx_inj hj hy e'; omega))]
    show _ = some (Value.bool (if x = i ∧ y = j then b else M x y))
    rw [if_neg e]
    exact h x y hx hy

end Go.Proofs.Ytohofkfajmeohaa
