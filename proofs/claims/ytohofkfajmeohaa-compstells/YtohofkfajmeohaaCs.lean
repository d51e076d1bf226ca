/- Plain and in memory: what the document's Comps goes by. -/
import Derived.Test.YtohofkfajmeohaaProg
import Derived.Test.YtohofkfajmeohaaMem
import Derived.Test.YtohofkfajmeohaaRa
import Derived.Test.YtohofkfajmeohaaCl
import Derived.Test.YtohofkfajmeohaaCr
namespace Go.Proofs.Ytohofkfajmeohaa
set_option linter.unusedSimpArgs false
set_option linter.unusedVariables false
open Go.RowKit

def predH (g : Gr) (done : List Int) (o : Int) : Bool := isHead g o && !decide (o ∈ done) && ready g done o

/-- The least from i on that may come. -/
def bestI (g : Gr) (done : List Int) (i : Nat) : Option Int := ((nums g.objs.length).drop i).find? (predH g done)

theorem nums_drop {n i : Nat} (h : i < n) : (nums n).drop i = (i : Int) :: (nums n).drop (i + 1) := by
  have hl : i < (nums n).length := by rw [nums_len]; exact h
  rw [List.drop_eq_getElem_cons hl]
  congr 1
  simp [nums]

theorem bestI_end (g : Gr) (done : List Int) : bestI g done g.objs.length = none := by
  unfold bestI
  rw [List.drop_of_length_le (by rw [nums_len]; omega)]
  rfl

theorem bestI_zero (g : Gr) (done : List Int) : bestI g done 0 = nextH g done := rfl

theorem bestI_yes {g : Gr} {done : List Int} {i : Nat} (hi : i < g.objs.length) (h : predH g done i = true) : bestI g done i = some (i : Int) := by
  unfold bestI
  rw [nums_drop hi, List.find?_cons, h]

theorem bestI_no {g : Gr} {done : List Int} {i : Nat} (hi : i < g.objs.length) (h : predH g done i = false) : bestI g done i = bestI g done (i + 1) := by
  unfold bestI
  rw [nums_drop hi, List.find?_cons, h]

/-- Its component, or nothing. -/
def bestL (g : Gr) (done : List Int) (i : Nat) : List Int := match bestI g done i with
  | none => []
  | some o => compL g o

theorem bestL_len (g : Gr) (done : List Int) (i : Nat) : (bestL g done i).length ≤ g.objs.length := by
  unfold bestL
  cases bestI g done i with
  | none => simp
  | some o => exact compK_len g o g.objs.length

theorem bestL_yes {g : Gr} {done : List Int} {i : Nat} (hi : i < g.objs.length) (h : predH g done i = true) : bestL g done i = compL g i := by
  unfold bestL; rw [bestI_yes hi h]
theorem bestL_no {g : Gr} {done : List Int} {i : Nat} (hi : i < g.objs.length) (h : predH g done i = false) : bestL g done i = bestL g done (i + 1) := by
  unfold bestL; rw [bestI_no hi h]

/-- May i's component come, as far as the first j objects tell? -/
def readyK (g : Gr) (done : List Int) (i : Int) (j : Nat) : Bool := (nums j).all fun p => inOne g i p || !decide (p ∈ ledL g i) || decide (p ∈ done)

theorem readyK_succ (g : Gr) (done : List Int) (i : Int) (j : Nat) : readyK g done i (j + 1) = (readyK g done i j && (inOne g i j || !decide ((j : Int) ∈ ledL g i) || decide ((j : Int) ∈ done))) := by
  unfold readyK; rw [nums_succ, List.all_append]; simp

theorem readyK_end {g : Gr} (hg : Good g) (done : List Int) (i : Int) : readyK g done i g.objs.length = ready g done i := by
  rw [Bool.eq_iff_iff, ready_iff]
  unfold readyK
  rw [List.all_eq_true]
  constructor
  · intro h p hp hn
    have hr := led_rng hg hp
    have := h p (mem_nums.2 hr)
    have hno : inOne g i p = false := by rw [Bool.eq_false_iff]; exact fun e => hn (mem_comp.2 ⟨hr, e⟩)
    rw [hno] at this
    simpa [hp] using this
  · intro h p hp
    by_cases h1 : inOne g i p = true
    · simp [h1]
    · by_cases h2 : p ∈ ledL g i
      · have := h p h2 (fun e => h1 (mem_comp.1 e).2)
        simp [this]
      · simp [h2]

theorem LRow.ownSep {W W' : World} {row : Option Nat} {base : Nat} {v : Value} {cs : List Sl} {LL : List (List Int)} (h : LRow W base v cs LL) (hg : W.grownBy W' row) (h1 : v.ownBlock = none ∨ v.ownBlock ≠ row) (h2 : ∀ s ∈ cs, (encS s).ownBlock = none ∨ (encS s).ownBlock ≠ row) : LRow W' base v cs LL :=
  ⟨h.row.kept hg h1, h.len, fun k s l hs hl => (h.each k s l hs hl).kept hg (h2 s (List.mem_of_getElem? hs))⟩

/-- A row of slices is no row of numbers. -/
theorem rows_apart {W : World} {b b' : Nat} {v v' : Value} {n n' : Nat} {xs xs' : List Value} (h : W.ownsRow b 30 1 v n xs) (h' : W.ownsRow b' 3 1 v' n' xs') : v.ownBlock = none ∨ v.ownBlock ≠ v'.ownBlock := by
  rcases h.2 with ⟨rfl, _⟩ | ⟨g, cap, cur, rfl, _, hgb, _⟩
  · exact .inl rfl
  · refine .inr fun e => ?_
    rcases h'.2 with ⟨rfl, _⟩ | ⟨g', cap', cur', rfl, _, hgb', _⟩
    · simp [Value.ownBlock] at e
    · simp [Value.ownBlock] at e
      subst e
      rw [hgb] at hgb'
      simp at hgb'

theorem LRow.lts {W : World} {base : Nat} {v : Value} {cs : List Sl} {LL : List (List Int)} (h : LRow W base v cs LL) : ∀ s ∈ cs, ∀ b, (encS s).ownBlock = some b → b < W.heap.size := by
  intro s hs b hb
  obtain ⟨k, hk⟩ := List.getElem?_of_mem hs
  have hl := (List.getElem?_eq_some_iff.1 hk).1
  exact ((h.each k s _ hk (List.getElem?_eq_getElem (by rw [h.len]; exact hl))).lt b hb).2

theorem row_mono {W : World} {base base' : Nat} {e : TypeId} {size : Nat} {v : Value} {n : Nat} {xs : List Value} (h : W.ownsRow base e size v n xs) (hb : base' ≤ base) : W.ownsRow base' e size v n xs :=
  ⟨h.1, h.2.imp id fun ⟨g', cap, cur, h1, h2, h3⟩ => ⟨g', cap, cur, h1, by omega, h3⟩⟩

end Go.Proofs.Ytohofkfajmeohaa
