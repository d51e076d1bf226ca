/- Merged texts: Mj Ml Mm Mo Mp Fa Mq Gk. -/
import Derived.Test.YtngjakeofhmohaaProg
import Derived.Test.YtngjakeofhmohaaVisitRestoresD
import Derived.Deep.RegionLaw

/- Walks: again's closure. -/
namespace Go.Proofs.Ytngjakeofhmohaa
set_option linter.unusedSimpArgs false
set_option linter.unusedVariables false
open Go.RowKit Go.Shelf
attribute [local go_sem] field51_0 field51_1

theorem Inv.next {fs : List (List Int)} {rs : List Int} {n0 k : Nat} {p : Nat → Bool} {lost : Bool} (h : Inv fs rs (fun j => k ≤ j) n0 p [] lost) (hp : p k = false) : Inv fs rs (fun j => k + 1 ≤ j) n0 p [] lost := by
  refine ⟨h.rch, h.inb, h.km, fun e j hj => ?_, h.le, h.ls⟩
  rcases h.cl e j hj with h1 | h1 | h1
  · refine .inl ?_
    have : j ≠ k := fun e => by subst e; rw [hp] at hj; cases hj
    show k + 1 ≤ j
    have : k ≤ j := h1
    omega
  · exact .inr (.inl h1)
  · exact .inr (.inr h1)

theorem Inv.open {fs : List (List Int)} {rs : List Int} {n0 k : Nat} {p : Nat → Bool} {lost : Bool} (h : Inv fs rs (fun j => k ≤ j) n0 p [] lost) (hp : p k = true) (hk : k < fs.length) : Inv fs rs (fun j => k + 1 ≤ j) n0 p [k] lost := by
  refine ⟨h.rch, fun j hj => ?_, fun j hj => ?_, fun e j hj => ?_, h.le, h.ls⟩
  · simp at hj; subst hj; exact hk
  · simp at hj; subst hj; exact hp
  · rcases h.cl e j hj with h1 | h1 | h1
    · have h2 : k ≤ j := h1
      by_cases e : j = k
      · exact .inr (.inl (by simp [e]))
      · exact .inl (show k + 1 ≤ j by omega)
    · simp at h1
    · exact .inr (.inr h1)

set_option maxRecDepth 100000 in
set_option maxHeartbeats 2000000 in
theorem ag1_c (hs : List Int) (fs : List (List Int)) (rs : List Int) (n0 k : Nat) (p : Nat → Bool) (N mb pb : Nat) (vw vr : Value) (room : Nat) (lost : Bool) (L A : Int) (w : World)
    (hM : MkA w N mb vw vr hs fs rs room p [] lost) (hA : Arn hs fs rs) (hr1 : 1 ≤ room) (hroom : room ≤ 64) (hk : k < fs.length) (hI : Inv fs rs (fun j => k ≤ j) n0 p [] lost) (hp : w.heap[pb]? = some (.cells #[.pointer (some ⟨mb, 0, none⟩)] 72)) :
    Calls Try.prog 63 #[.int .i64 (tot (fs.take k) : Nat), .agg #[.int .i64 L, .bool (p k), .int .i64 A], .pointer (some ⟨pb, 0, none⟩)] w fun e w' => (e = .returned (.tuple #[]) ∧ ClRes N mb vw vr hs fs rs room (fun j => k + 1 ≤ j) n0 p w') ∧ Below N w w' ∧ KeepT w w' := by
  obtain ⟨i0, hi0, hz0, hz1, hz2⟩ := info_parts Try.info3
  have hlp : pb < w.heap.size := (Array.getElem?_eq_some_iff.1 hp).1
  have hNw : N ≤ w.heap.size := by obtain ⟨vk, h⟩ := hM; have := h.box.lt; have := h.lo; omega
  cases hpk : p k
  · have hb0 : Below w.heap.size w (w.alloc (.cells #[.int .i64 L, .bool false, .int .i64 A] 68)) := (Below.refl _ _).alloc (Nat.le_refl _) _
    have HM := hide (hM.below hb0)
    have HI := hide (hI.next hpk)
    clear hM hI hpk hp
    go_enter Try.func63, Try.ntmps63
    go_wp2
    exact bodyPost_end (v := .tuple #[]) (results_none rfl _ _ _) rfl ⟨⟨rfl, p, lost, unhide HM, unhide HI, fun j h => h⟩, hb0.mono hNw, KeepT.below hb0⟩
  · obtain ⟨W1, hW1⟩ : ∃ W1, w.alloc (.cells #[.int .i64 L, .bool true, .int .i64 A] 68) = W1 := ⟨_, rfl⟩
    have hb0 : Below w.heap.size w W1 := by rw [← hW1]; exact (Below.refl _ _).alloc (Nat.le_refl _) _
    have b1 : W1.cell? ⟨w.heap.size, 1, none⟩ = some (.bool true) := by rw [← hW1]; simp [go_sem]
    have hs1 : w.heap.size < W1.heap.size := by rw [← hW1]; simp
    have HI := hide (hI.open hpk hk)
    obtain ⟨vk, hM⟩ := hM.below hb0
    have hp1 : W1.heap[pb]? = some (.cells #[.pointer (some ⟨mb, 0, none⟩)] 72) := by rw [hb0.block pb hlp]; exact hp
    have hcp := cell_of_box hp1
    have Hp1 := hide hp1
    have q3 := hM.box.c3
    have z3 := hM.box.fr 3
    have hlm := hM.box.lt
    have hmN := hM.lo
    have hko := hM.ko
    obtain ⟨ka, kc, rfl⟩ := ownsRow_slice hko
    have hkl : (plc fs ([] : List Nat)).length = 0 := rfl
    have Hkd := hide hM
    rw [hkl] at q3 hko
    have hkd := hko
    have hlp1 : pb < W1.heap.size := by omega
    have hb0N := hb0.mono hNw
    have Hclimb : Hid (∀ W lost v, Mk W N mb vw vr v (mW hs fs p) rs (plc fs [k]) room lost → Inv fs rs (fun j => k + 1 ≤ j) n0 p [k] lost → Calls Try.prog 52 #[.pointer (some ⟨mb, 0, none⟩)] W fun e w' => (e = .returned (.tuple #[]) ∧ ClRes N mb vw vr hs fs rs room (fun j => k + 1 ≤ j) n0 p w') ∧ Below N W w' ∧ KeepT W w') := fun W lost v h1 h2 =>
      climb_c hs fs rs _ n0 p [k] N mb vw vr room lost W ⟨v, h1⟩ hA hroom (by simpa using hr1) h2
    have Hpl : Hid (plc fs [k] = plc fs [] ++ [((tot (fs.take k) : Nat) : Int)]) := rfl
    have hq : tot (fs.take k) ≤ 256 := by have := place_lt hk; have := hA.n256; omega
    clear hM hI hpk hp hp1 hko hkl hA
    generalize tot (fs.take k) = q at *
    go_enter Try.func63, Try.ntmps63
    go_wp2
    clear hW1
    go_region_law (refine step_append_at rfl _ _ 25 rfl N 3 i0 _ 1 8 Try.underlying25 hi0 hz0 hz1 hz2 rfl (Nat.zero_lt_one) (.slice ka 0 kc) 0 _ rfl (hkd.alloc _).drew ⟨W1.heap.size, 0, none⟩ 1 1 [.int .i64 (q : Int)] rfl rfl (cell_one_at _ _ _ _ rfl) (by simp [Value.oneCell']) (by simp only [maxLen]; omega) (by omega) (by show N ≤ (W1.heap.push _).size; simp; omega) ?_; intro v' w5 hrow hg5 hat; have hpush := (((unhide Hkd).alloc (.cells #[.int .i64 (q : Int)] 3)).below ((Below.refl _ _).drew)).push (x := (q : Int)) hrow hg5 hat; have r3 := hpush.1.c3; have t3 := hpush.1.fr 3; have hlm5 := hpush.1.lt; have Hpush := hide hpush.2; have Hk5 := hide ((((KeepT.refl W1).alloc (.cells #[.int .i64 (q : Int)] 3)).trans (KeepT.below ((Below.refl _ _).drew))).grown (hkd.alloc _).drew hg5 (.inr (.inl rfl))); have Hty := hide hpush.1.ty; clear hpush; have c5 := cell_of_box ((unhide Hk5) pb _ 72 (unhide Hp1) (by decide) (by decide) (by decide)); have hpb5 := (Array.getElem?_eq_some_iff.1 ((unhide Hk5) pb _ 72 (unhide Hp1) (by decide) (by decide) (by decide))).1; obtain ⟨g5, cap5, hv5⟩ := ownsRow_succ hrow; subst hv5)
    all_goals
      have Hc9 := hide (unhide Hclimb _ lost _ (by rw [unhide Hpl]; exact unhide Hpush) (unhide HI))
      have Hb9 : Hid (Below N w (w5.setCell ⟨mb, 3, none⟩ (.slice (some ⟨g5, 0, none⟩) 1 cap5))) := hide (((hb0N.alloc (by omega) (.cells #[.int .i64 (q : Int)] 3)).drew.grown hg5 (by show N ≤ (W1.heap.push _).size; simp; omega) (fun z e => (hkd.lt z e).1)).setCell (p := ⟨mb, 3, none⟩) hmN _)
      have Hk9 := hide (((KeepT.below hb0).trans (unhide Hk5)).setCell (j := 3) (unhide Hty) (.inr (.inr rfl)) (.slice (some ⟨g5, 0, none⟩) 1 cap5))
      clear Hclimb Hpush
      go_wp2_with fail
      refine (unhide Hc9).mono ?_
      rintro e w6 ⟨⟨he, hres⟩, hb6, hk6⟩
      subst he
      have Hres := hide hres
      have Hk6 := hide hk6
      clear hres Hc9 hk6
      go_wp2
      exact bodyPost_end (v := .tuple #[]) (results_none rfl _ _ _) rfl ⟨⟨rfl, unhide Hres⟩, (unhide Hb9).trans hb6, (unhide Hk9).trans (unhide Hk6)⟩

end Go.Proofs.Ytngjakeofhmohaa

/- Walks: again, markAll. -/
namespace Go.Proofs.Ytngjakeofhmohaa
set_option linter.unusedSimpArgs false
set_option linter.unusedVariables false
open Go.RowKit Go.Shelf
attribute [local go_sem] field51_0 field51_1

theorem to_lt {fs : List (List Int)} {l : List Int} {j : Nat} (h : To fs l j) : j < fs.length := by
  obtain ⟨x, _, _, h⟩ := h
  have := (List.getElem?_eq_some_iff.1 h).1
  rw [stF_len] at this
  exact this
theorem rch_lt {fs : List (List Int)} {rs : List Int} {j : Nat} (h : Rch fs rs j) : j < fs.length :=
  h (fun j => j < fs.length) (fun _ h => to_lt h) (fun _ _ _ _ _ h => to_lt h)

/-- What holds while marked objects are gone through once more. -/
def AgI (w0 : World) (N mb pb : Nat) (vw vr : Value) (hs : List Int) (fs : List (List Int)) (rs : List Int) (room n0 : Nat) (p : Nat → Bool) (k : Nat) (W : World) : Prop :=
  ClRes N mb vw vr hs fs rs room (fun j => k ≤ j) n0 p W ∧ W.heap[pb]? = some (.cells #[.pointer (some ⟨mb, 0, none⟩)] 72) ∧ Below N w0 W ∧ KeepT w0 W

theorem agEach (N mb pb cap : Nat) (a : Option Addr) (vr : Value) (hs : List Int) (fs : List (List Int)) (rs : List Int) (room n0 : Nat) (p : Nat → Bool) (w : World) (hA : Arn hs fs rs) (hr1 : 1 ≤ room) (hroom : room ≤ 64)
    (hM : ClRes N mb (.slice a (tot fs) cap) vr hs fs rs room (fun j => 0 ≤ j) n0 p w) (hp : w.heap[pb]? = some (.cells #[.pointer (some ⟨mb, 0, none⟩)] 72)) :
    Calls Try.prog 47 #[.slice a (tot fs : Nat) cap, .func (.func 63) #[] #[.pointer (some ⟨pb, 0, none⟩)]] w fun e w' => e = .returned (.tuple #[]) ∧ AgI w N mb pb (.slice a (tot fs) cap) vr hs fs rs room n0 p fs.length w' := by
  have hF := hA.fit
  refine each56_c _ a cap fs (AgI w N mb pb (.slice a (tot fs) cap) vr hs fs rs room n0 p) w hA.n256 ⟨hM, hp, Below.refl _ _, KeepT.refl _⟩ ?_
  intro k hk W hI
  obtain ⟨⟨p', lost', hMA, hI', hle⟩, hpW, hbW, hkW⟩ := hI
  have hMA' := hMA
  obtain ⟨vk, hMW⟩ := hMA
  obtain ⟨x, hx, hx1, hx2, hx3, hx4⟩ := fit_at hF hk
  have hml := mW_len hF p'
  have hpl := place_lt hk
  obtain ⟨wb, cap', hvw, hwN, hwb, hcap⟩ := hMW.words (by rw [hml]; omega)
  rw [hml] at hvw
  injection hvw with h1 _ h3
  subst h1 h3
  have hg := mW_get hF p' hx
  have hr2 := reh_ok (p' k) x
  refine ⟨wb, 0, reh (p' k) x, rfl, by rw [Nat.zero_add]; exact (hMW.wcell hml.symm hg).1, hr2.2.2.2.2.1, hr2.2.2.2.2.2, hr2.1, by rw [reh_wlen hx1]; exact hx2, fun W' hb' => ?_⟩
  have hp' : W'.heap[pb]? = some (.cells #[.pointer (some ⟨mb, 0, none⟩)] 72) := by rw [hb'.block pb (Array.getElem?_eq_some_iff.1 hpW).1]; exact hpW
  rw [hr2.2.2.1]
  refine (ag1_c hs fs rs n0 k p' N mb pb _ vr room lost' _ _ W' (hMA'.below hb') hA hr1 hroom hk hI' hp').mono ?_
  rintro e W2 ⟨⟨rfl, p2, lost2, h2, h3, h4⟩, hb2, hk2⟩
  refine ⟨rfl, ⟨⟨p2, lost2, h2, h3, fun j hj => h4 j (hle j hj)⟩, hk2 pb _ 72 hp' (by decide) (by decide) (by decide), (hbW.trans (hb'.mono (by omega))).trans hb2, (hkW.trans (KeepT.below hb')).trans hk2⟩, hk2.k51, hb2.size⟩

theorem Inv.again {fs : List (List Int)} {rs : List Int} {E : Nat → Prop} {n0 : Nat} {p : Nat → Bool} {lost : Bool} (h : Inv fs rs E n0 p [] lost) : Inv fs rs (fun j => 0 ≤ j) (unm fs.length p) p [] false :=
  ⟨h.rch, h.inb, h.km, fun _ j _ => .inl (Nat.zero_le j), Nat.le_refl _, fun e => by cases e⟩

theorem Inv.none {fs : List (List Int)} {rs : List Int} {n0 : Nat} {p : Nat → Bool} {lost : Bool} (h : Inv fs rs (fun j => fs.length ≤ j) n0 p [] lost) : Inv fs rs (fun _ => False) n0 p [] lost := by
  refine ⟨h.rch, h.inb, h.km, fun e j hj => ?_, h.le, h.ls⟩
  rcases h.cl e j hj with h1 | h1 | h1
  · have := rch_lt (h.rch j hj)
    have h2 : fs.length ≤ j := h1
    omega
  · exact .inr (.inl h1)
  · exact .inr (.inr h1)

set_option maxRecDepth 100000 in
set_option maxHeartbeats 2000000 in
theorem again_c (hs : List Int) (fs : List (List Int)) (rs : List Int) (n0 : Nat) (p : Nat → Bool) (N mb : Nat) (vw vr : Value) (room : Nat) (w : World)
    (hM : MkA w N mb vw vr hs fs rs room p [] true) (hA : Arn hs fs rs) (hr1 : 1 ≤ room) (hroom : room ≤ 64) (hI : Inv fs rs (fun _ => False) n0 p [] true) :
    Calls Try.prog 53 #[.pointer (some ⟨mb, 0, none⟩)] w fun e w' => (e = .returned (.tuple #[]) ∧ ClRes N mb vw vr hs fs rs room (fun _ => False) (unm fs.length p) p w') ∧ Below N w w' ∧ KeepT w w' := by
  have hml := mW_len hA.fit p
  obtain ⟨W1, hW1⟩ : ∃ W1, w.alloc (.cells #[.pointer (some ⟨mb, 0, none⟩)] 72) = W1 := ⟨_, rfl⟩
  have hb0 : Below w.heap.size w W1 := by rw [← hW1]; exact (Below.refl _ _).alloc (Nat.le_refl _) _
  have hs1 : w.heap.size < W1.heap.size := by rw [← hW1]; simp
  have hp1 : W1.heap[w.heap.size]? = some (.cells #[.pointer (some ⟨mb, 0, none⟩)] 72) := by rw [← hW1]; exact heap_alloc_new _ _
  have hcp := cell_of_box hp1
  obtain ⟨vk, hM1⟩ := hM.below hb0
  have hM2 := hM1.setL false
  have q4 := hM1.box.c4
  have z4 := hM1.box.fr 4
  have q0 := hM1.box.c0
  have hmN := hM1.lo
  have hlm := hM1.box.lt
  have hNw : N ≤ w.heap.size := by obtain ⟨vk, h⟩ := hM; have := h.box.lt; have := h.lo; omega
  obtain ⟨a, cap, hvw⟩ := ownsRow_slice hM1.wo
  rw [hml] at hvw
  subst hvw
  have hp2 : (W1.setCell ⟨mb, 4, none⟩ (.bool false)).heap[w.heap.size]? = some (.cells #[.pointer (some ⟨mb, 0, none⟩)] 72) := by
    refine ((KeepT.refl W1).setCell (j := 4) hM1.box.ty (.inr (.inr rfl)) (.bool false)) _ _ 72 hp1 (by decide) (by decide) (by decide)
  have Hk2 := hide ((KeepT.below hb0).setCell (j := 4) hM1.box.ty (.inr (.inr rfl)) (.bool false))
  have Hb2 := hide ((hb0.mono hNw).setCell (p := ⟨mb, 4, none⟩) hmN (.bool false))
  have Hc := hide (agEach N mb w.heap.size cap a vr hs fs rs room (unm fs.length p) p (W1.setCell ⟨mb, 4, none⟩ (.bool false)) hA hr1 hroom ⟨p, false, ⟨_, hM2⟩, hI.again, fun j h => h⟩ hp2)
  clear hM hM1 hM2 hp1 hp2 hI hA hml
  generalize tot fs = n at *
  go_enter Try.func53, Try.ntmps53
  go_wp2_with fail
  refine (unhide Hc).mono ?_
  rintro e w3 ⟨he, ⟨p', lost', h1, h2, h3⟩, _, hb3, hk3⟩
  subst he
  have Hres : Hid (ClRes N mb (.slice a n cap) vr hs fs rs room (fun _ => False) (unm fs.length p) p w3) := hide ⟨p', lost', h1, h2.none, h3⟩
  have Hk3 := hide hk3
  clear h1 h2 h3 hk3 hW1 Hc
  go_wp2
  exact bodyPost_end (v := .tuple #[]) (results_none rfl _ _ _) rfl ⟨⟨rfl, unhide Hres⟩, (unhide Hb2).trans hb3, (unhide Hk2).trans (unhide Hk3)⟩

end Go.Proofs.Ytngjakeofhmohaa

/- Walks: markAll. -/
namespace Go.Proofs.Ytngjakeofhmohaa
set_option linter.unusedSimpArgs false
set_option linter.unusedVariables false
open Go.RowKit Go.Shelf
attribute [local go_sem] field51_0 field51_1

theorem unm_mono {p q : Nat → Bool} (h : ∀ j, p j = true → q j = true) (n : Nat) : unm n q ≤ unm n p := by
  unfold unm
  rw [← List.countP_eq_length_filter, ← List.countP_eq_length_filter]
  refine List.countP_mono_left fun x _ hx => ?_
  cases hp : p x
  · rfl
  · rw [h x hp] at hx; cases hx

/-- Whether something was lost, as memory tells. -/
def mesL (mb : Nat) (w : World) : Nat := match w.cell? ⟨mb, 4, none⟩ with
  | some (.bool true) => 1
  | _ => 0

theorem mesL_eq {W : World} {N mb : Nat} {vw vr : Value} {hs : List Int} {fs : List (List Int)} {rs : List Int} {room : Nat} {p : Nat → Bool} {K : List Nat} {lost : Bool} (h : MkA W N mb vw vr hs fs rs room p K lost) : mesL mb W = if lost then 1 else 0 := by
  obtain ⟨vk, h⟩ := h
  unfold mesL
  rw [h.box.c4]
  cases lost <;> rfl

/-- What markAll leaves. -/
def MaRes (N mb : Nat) (vw vr : Value) (hs : List Int) (fs : List (List Int)) (rs : List Int) (room : Nat) (W : World) : Prop :=
  ∃ p, MkA W N mb vw vr hs fs rs room p [] false ∧ ∀ j, p j = true ↔ Rch fs rs j

set_option maxRecDepth 100000 in
set_option maxHeartbeats 2000000 in
theorem markAll_c (hs : List Int) (fs : List (List Int)) (rs : List Int) (N mb : Nat) (vw vr : Value) (room : Nat) (w : World)
    (hM : MkA w N mb vw vr hs fs rs room (fun _ => false) [] false) (hA : Arn hs fs rs) (hr1 : 1 ≤ room) (hroom : room ≤ 64) :
    Calls Try.prog 34 #[.pointer (some ⟨mb, 0, none⟩)] w fun e w' => (e = .returned (.tuple #[]) ∧ MaRes N mb vw vr hs fs rs room w') ∧ Below N w w' ∧ KeepT w w' := by
  have HM0 := hide hM
  have HA := hide hA
  have HF := hide hA.fit
  have h256 := hA.n256
  have HI0 : Hid (Inv fs rs (fun _ => False) (fs.length + 1) (fun _ => false) [] false) := hide ⟨fun j h => (by cases h), by simp, by simp, fun _ j h => (by cases h), by unfold unm; have := List.length_filter_le (fun i => !(fun _ => false) i) (List.range fs.length); rw [List.length_range] at this; omega, fun e => by cases e⟩
  clear hM hA
  go_enter Try.func34, Try.ntmps34
  go_wp2
  go_loopw [] (fun wr => ∃ p lost, Hid (MkA wr N mb vw vr hs fs rs room p [] lost) ∧ Hid (Inv fs rs (fun _ => False) (fs.length + 1) p [] lost) ∧ Below N w wr ∧ Hid (KeepT w wr)) (fun wr => mesU vw fs wr)
  case atStart => exact ⟨_, _, HM0, HI0, Below.refl _ _, hide (KeepT.refl _)⟩
  case round =>
    clear HM0 HI0
    obtain ⟨p, lost, HMA, HI, hb, Hkt⟩ := hrel
    have HmU := hide (mesU_eq (unhide HMA) (unhide HF))
    obtain ⟨vk, hM⟩ := unhide HMA
    have q1 := hM.box.c1
    have hlm := hM.box.lt
    have hmN := hM.lo
    have hNw : N ≤ wr.heap.size := by omega
    obtain ⟨ra, rc, hvr, hrd⟩ := hM.rds (unhide HA).n8
    subst hvr
    have Hun := hide (unmarked_c ra rc rs hs fs p N mb vw _ vk rs _ room lost wr hM (unhide HF) h256 hrd (unhide HA).ur (unhide HA).n8 (unhide HA).okr)
    clear hM hrd
    go_wp2_with fail
    refine (unhide Hun).mono ?_
    rintro e w3 ⟨hres, hb3⟩
    have hs3 := hb3.size
    clear Hun
    rcases hres with ⟨j, hj, hpj, hto, he⟩ | ⟨hall, he⟩
    · subst he
      have Htk := hide (take_c hs fs rs p [] N mb vw _ room j lost w3 ((unhide HMA).below hb3) (unhide HF) h256 hroom (by simp) hj)
      have HI2 := hide ((unhide HI).push hj hpj (rch_root hto))
      have Hu := hide (unm_upd hj hpj)
      clear hto hpj HI HMA
      go_wp2_with fail
      refine (unhide Htk).mono ?_
      rintro e w4 ⟨⟨he, hres⟩, hb4, hk4⟩
      subst he
      have h4 : MkA w4 N mb vw (.slice ra rs.length rc) hs fs rs room (upd p j) ([] ++ [j]) lost := by
        rcases hres with ⟨h1, _⟩ | ⟨_, h2⟩
        · simp at h1; omega
        · exact h2
      have Hcl := hide (climb_c hs fs rs _ _ (upd p j) ([] ++ [j]) N mb vw _ room lost w4 h4 (unhide HA) hroom (by simpa using hr1) (unhide HI2))
      have Hk4 := hide ((unhide Hkt).trans ((KeepT.below hb3).trans hk4))
      have hbw4 : Below N w w4 := (hb.trans (hb3.mono hNw)).trans hb4
      clear hres h4 Htk HI2 hk4
      go_wp2_with fail
      refine (unhide Hcl).mono ?_
      rintro e w5 ⟨⟨he, p', lost', h1, h2, h3⟩, hb5, hk5⟩
      subst he
      have H1 := hide h1
      have H2 := hide h2
      have H3 := hide h3
      have Hk5 := hide ((unhide Hk4).trans hk5)
      clear h1 h2 h3 hk5 Hcl
      go_wp2
      go_roundw
      case rel => exact ⟨p', lost', H1, H2, hbw4.trans hb5, Hk5⟩
      case measure =>
        have := unm_mono (unhide H3) fs.length
        have := unhide Hu
        rw [unhide HmU, mesU_eq (unhide H1) (unhide HF)]
        omega
    · subst he
      have Hall := hide hall
      have HM3 := hide ((unhide HMA).below hb3)
      have Hk3 := hide ((unhide Hkt).trans (KeepT.below hb3))
      have hbw3 : Below N w w3 := hb.trans (hb3.mono hNw)
      clear hall HMA HmU Hkt q1 hlm hNw hb hb3 hs3
      go_wp2
      go_loopw [] (fun wr => ∃ p lost n0, Hid (MkA wr N mb vw (.slice ra rs.length rc) hs fs rs room p [] lost) ∧ Hid (Inv fs rs (fun _ => False) n0 p [] lost) ∧ Hid (∀ j, To fs rs j → p j = true) ∧ Below N w wr ∧ Hid (KeepT w wr)) (fun wr => 2 * mesU vw fs wr + mesL mb wr)
      case atStart => exact ⟨p, lost, _, HM3, HI, Hall, hbw3, Hk3⟩
      case round =>
        clear HM3 HI Hall hbw3 Hk3
        obtain ⟨p, lost, n0, HMA, HI, Hall, hb, Hkt⟩ := hrel
        have HmU := hide (mesU_eq (unhide HMA) (unhide HF))
        have HmL := hide (mesL_eq (unhide HMA))
        have q4 : wr.cell? ⟨mb, 4, none⟩ = some (.bool lost) := by obtain ⟨vk, hM⟩ := unhide HMA; exact hM.box.c4
        have hlm : mb < wr.heap.size := by obtain ⟨vk, hM⟩ := unhide HMA; exact hM.box.lt
        cases lost
        · have HR : Hid (MaRes N mb vw (.slice ra rs.length rc) hs fs rs room wr) := hide ⟨p, unhide HMA, marked_all (unhide HI).rch (unhide Hall) (fun i hi => by
            rcases (unhide HI).cl rfl i hi with h | h | h
            · cases h
            · cases h
            · exact h)⟩
          go_wp2
          exact bodyPost_end (v := .tuple #[]) (results_none rfl _ _ _) rfl ⟨⟨rfl, unhide HR⟩, hb, unhide Hkt⟩
        · have Hag := hide (again_c hs fs rs n0 p N mb vw _ room wr (unhide HMA) (unhide HA) hr1 hroom (unhide HI))
          go_wp2_with fail
          refine (unhide Hag).mono ?_
          rintro e w5 ⟨⟨he, p', lost', h1, h2, h3⟩, hb5, hk5⟩
          subst he
          have H1 := hide h1
          have H2 := hide h2
          have H3 := hide h3
          have Hk5 := hide ((unhide Hkt).trans hk5)
          clear h1 h2 h3 hk5 Hag
          go_wp2
          go_roundw
          case rel => exact ⟨p', lost', _, H1, H2, hide (fun j hj => unhide H3 j (unhide Hall j hj)), hb.trans hb5, Hk5⟩
          case measure =>
            have hm := unm_mono (unhide H3) fs.length
            rw [unhide HmU, unhide HmL, mesU_eq (unhide H1) (unhide HF), mesL_eq (unhide H1)]
            cases lost'
            · simp; omega
            · have := (unhide H2).ls rfl
              simp; omega

end Go.Proofs.Ytngjakeofhmohaa

/- Walks: newMarker. -/
namespace Go.Proofs.Ytngjakeofhmohaa
set_option linter.unusedSimpArgs false
set_option linter.unusedVariables false
open Go.RowKit Go.Shelf
attribute [local go_sem] field51_0 field51_1

def NmRes (N : Nat) (hs : List Int) (fs : List (List Int)) (rs : List Int) (room : Nat) (e : Ending) (W : World) : Prop :=
  ∃ mb vw vr, e = .returned (.pointer (some ⟨mb, 0, none⟩)) ∧ MkA W N mb vw vr hs fs rs room (fun _ => false) [] false

set_option maxRecDepth 100000 in
set_option maxHeartbeats 2000000 in
theorem newMarker_c (aw ar : Option Addr) (cw cr : Nat) (hs : List Int) (fs : List (List Int)) (rs : List Int) (room : Nat) (w : World) (hA : Arn hs fs rs) (hr1 : 1 ≤ room) (hroom : room ≤ 64)
    (hW : Wds w.heap.size w aw (joinW hs fs)) (hR : Wds w.heap.size w ar rs) :
    Calls Try.prog 33 #[.agg #[.slice aw (tot fs : Nat) cw, .slice ar rs.length cr], .int .i64 (room : Nat)] w fun e w' => NmRes w.heap.size hs fs rs room e w' ∧ Below w.heap.size w w' := by
  obtain ⟨i0, hi0, hz0, hz1, hz2⟩ := info_parts Try.info3
  have hF := hA.fit
  have h256 := hA.n256
  have h8 := hA.n8
  have hjl := joinW_len hs fs hF.len
  have HF := hide hF
  have Hjl := hide hjl
  obtain ⟨W0, hW0⟩ : ∃ W0, w.alloc (.cells #[.slice aw (tot fs : Nat) cw, .slice ar rs.length cr] 24) = W0 := ⟨_, rfl⟩
  have hb0 : Below w.heap.size w W0 := by rw [← hW0]; exact (Below.refl _ _).alloc (Nat.le_refl _) _
  have hs0 : w.heap.size < W0.heap.size := by rw [← hW0]; simp
  have hp0 : W0.heap[w.heap.size]? = some (.cells #[.slice aw (tot fs : Nat) cw, .slice ar rs.length cr] 24) := by rw [← hW0]; exact heap_alloc_new _ _
  have Hp0 := hide hp0
  have HW := hide (hW.below hb0)
  have HR := hide (hR.below hb0)
  clear hW hR hA hjl hF hp0
  go_enter Try.func33, Try.ntmps33
  go_upto_region 2 with (at_make; go_must (refine wpList_make_own _ rfl _ _ 25 rfl w.heap.size 3 i0 _ 1 Try.underlying25 hi0 hz0 hz1 .i64 .i64 _ room rfl rfl rfl (by rw [hz2]; omega) (by simp only [maxLen]; omega) (by omega) ?_); go_must (intro w1 hown hg1))
  have hs1 := hg1.size
  have hM2 := mk_start hown (N := w.heap.size) (by omega)
  obtain ⟨W2, hW2⟩ : ∃ W2, ((w1.alloc (.cells #[.slice none 0 0, .slice none 0 0, .int .i64 (room : Nat), .slice (some ⟨W0.heap.size, 0, none⟩) 0 room, .bool false] 75)).alloc (.cells #[.pointer (some ⟨w1.heap.size, 0, none⟩)] 72)) = W2 := ⟨_, rfl⟩
  rw [hW2] at hM2
  have hp2 : W2.heap[w1.heap.size + 1]? = some (.cells #[.pointer (some ⟨w1.heap.size, 0, none⟩)] 72) := by
    have := heap_alloc_new (w1.alloc (.cells #[.slice none 0 0, .slice none 0 0, .int .i64 (room : Nat), .slice (some ⟨W0.heap.size, 0, none⟩) 0 room, .bool false] 75)) (.cells #[.pointer (some ⟨w1.heap.size, 0, none⟩)] 72)
    rw [hW2] at this
    simpa using this
  have hb2 : Below W0.heap.size W0 W2 := by rw [← hW2]; exact ((((Below.refl _ W0).grown hg1 (Nat.le_refl _) (fun k e => by cases e)).alloc hs1 _).alloc (by simp; omega) _)
  have hs2 := hb2.size
  rw [hW2]
  have hmW : W0.heap.size ≤ w1.heap.size := hs1
  have hlp2 := (Array.getElem?_eq_some_iff.1 hp2).1
  clear hown hg1 hW2 hW0 hs1
  generalize w1.heap.size = mb at *
  have hcp := cell_of_box hp2
  have q0 := hM2.box.c0
  have z0 := hM2.box.fr 0
  have hlm := hM2.box.lt
  have c24 : ∀ (wx : World), Below W0.heap.size W0 wx → wx.cell? ⟨w.heap.size, 0, none⟩ = some (.slice aw (tot fs : Nat) cw) ∧ wx.cell? ⟨w.heap.size, 1, none⟩ = some (.slice ar rs.length cr) := fun wx hb => by
    have h := (hb.block w.heap.size hs0).trans (unhide Hp0)
    exact ⟨by rw [cell_of_row wx w.heap.size 0 _ 24 (0, 0) h]; rfl, by rw [cell_of_row wx w.heap.size 1 _ 24 (0, 0) h]; rfl⟩
  have a0 := (c24 W2 hb2).1
  have hla : w.heap.size < W2.heap.size := by omega
  have HM2 := hide hM2
  have Hp2 := hide hp2
  have HWd : Hid (∀ wx, Below W0.heap.size W0 wx → Wds wx.heap.size wx aw (joinW hs fs) ∧ Wds wx.heap.size wx ar rs) := fun wx hb => ⟨((unhide HW).below (hb.mono (by omega))).mono (by have := hb.size; omega), ((unhide HR).below (hb.mono (by omega))).mono (by have := hb.size; omega)⟩
  have Hc24 := hide c24
  clear hM2 hp2 c24
  go_cut [] from 11 to 22 (fun wx => ∃ vw, Hid (Mk wx w.heap.size mb vw (.slice none 0 0) (.slice (some ⟨W0.heap.size, 0, none⟩) 0 room) (joinW hs fs) [] [] room false) ∧ Hid (KeepT W2 wx) ∧ Below W0.heap.size W0 wx)
  case first =>
    go_region_law (refine step_append_words rfl _ _ rfl w.heap.size aw (joinW hs fs) cw rfl (by rw [unhide Hjl]; rfl) (unhide HWd _ hb2.drew).1 (by rw [unhide Hjl]; exact h256) (by show w.heap.size ≤ W2.heap.size; omega) ?_; intro v' w5 hrow hg5 hat; have hfst := ((unhide HM2).below ((Below.refl _ _).drew)).first hrow hg5 hat; have r0 := hfst.1.c0; have t0 := hfst.1.fr 0; have hlm5 := hfst.1.lt; have Hfst := hide hfst.2; have Hty := hide hfst.1.ty; have Hk5 := hide (keepT_grown (KeepT.below ((Below.refl _ W2).drew)) hg5); have hb5 := hb2.drew.grown hg5 hs2 (fun k e => by cases e); have c5 := cell_of_box ((unhide Hk5) (mb + 1) _ 72 (unhide Hp2) (by decide) (by decide) (by decide)); clear hfst; obtain ⟨va, vc, hv5⟩ := ownsRow_slice hrow; subst hv5)
    all_goals
      go_wp2_with fail
      go_meet
      case rel => exact ⟨_, Hfst, hide ((unhide Hk5).setCell (unhide Hty) (.inr (.inr rfl)) _), hb5.setCell (p := ⟨mb, 0, none⟩) (by show W0.heap.size ≤ mb; omega) _⟩
  case rest =>
  obtain ⟨vw, HM3, Hk3, hb3⟩ := hcut
  clear q0 z0 hcp hlm hla a0 HM2 hlp2
  have hs3 := hb3.size
  have Hp3 := hide ((unhide Hk3) (mb + 1) _ 72 (unhide Hp2) (by decide) (by decide) (by decide))
  have hcp := cell_of_box (unhide Hp3)
  have q1 := (unhide HM3).box.c1
  have z1 := (unhide HM3).box.fr 1
  have hlm := (unhide HM3).box.lt
  have a1 := (unhide Hc24 wc hb3).2
  have hla : w.heap.size < wc.heap.size := by omega
  have hlp : mb + 1 < wc.heap.size := (Array.getElem?_eq_some_iff.1 (unhide Hp3)).1
  clear hb2 hs2 Hp2 Hk3
  go_upto_region 3 with fail
  go_cut [] from 23 to 34 (fun wx => ∃ vr, Hid (Mk wx w.heap.size mb vw vr (.slice (some ⟨W0.heap.size, 0, none⟩) 0 room) (joinW hs fs) rs [] room false) ∧ Hid (wx.heap[mb + 1]? = some (.cells #[.pointer (some ⟨mb, 0, none⟩)] 72)) ∧ Below W0.heap.size W0 wx)
  case first =>
    go_region_law (refine step_append_words rfl _ _ rfl w.heap.size ar rs cr rfl rfl (unhide HWd _ hb3.drew).2 (by omega) (by show w.heap.size ≤ wc.heap.size; omega) ?_; intro v' w5 hrow hg5 hat; have hsnd := ((unhide HM3).below ((Below.refl _ _).drew)).second hrow hg5 hat; have r0 := hsnd.1.c1; have t0 := hsnd.1.fr 1; have hlm5 := hsnd.1.lt; have Hsnd := hide hsnd.2; have Hty := hide hsnd.1.ty; have Hk5 := hide (keepT_grown (KeepT.below ((Below.refl _ wc).drew)) hg5); have hb5 := hb3.drew.grown hg5 hs3 (fun k e => by cases e); have c5 := cell_of_box ((unhide Hk5) (mb + 1) _ 72 (unhide Hp3) (by decide) (by decide) (by decide)); clear hsnd; obtain ⟨va, vc, hv5⟩ := ownsRow_slice hrow; subst hv5)
    all_goals
      go_wp2_with fail
      go_meet
      case rel => exact ⟨_, Hsnd, hide (((unhide Hk5).setCell (unhide Hty) (.inr (.inr rfl)) _) (mb + 1) _ 72 (unhide Hp3) (by decide) (by decide) (by decide)), hb5.setCell (p := ⟨mb, 1, none⟩) (by show W0.heap.size ≤ mb; omega) _⟩
  case rest =>
  obtain ⟨vr, HM4, Hp4, hb4⟩ := hcut
  clear q1 z1 hcp hlm hla a1 HM3 Hp3 hs3 hb3 hlp Hc24 HWd
  have hcp := cell_of_box (unhide Hp4)
  have hlp : mb + 1 < wc.heap.size := (Array.getElem?_eq_some_iff.1 (unhide Hp4)).1
  have hlm := (unhide HM4).box.lt
  obtain ⟨a, cap, hvw⟩ := ownsRow_slice (unhide HM4).wo
  rw [unhide Hjl] at hvw
  subst hvw
  have q0 := (unhide HM4).box.c0
  have Hc := hide (nmEach w.heap.size mb (mb + 1) cap a vr _ hs fs rs room wc (unhide HF) h256 (unhide HM4) (unhide Hp4))
  have Hfin : Hid (fW hs fs fs.length = mW hs fs (fun _ => false)) := by
    show joinW _ _ = joinW _ _
    rw [mkF_all _ _ (by have := (unhide HF).len; omega)]
  have hbw : Below w.heap.size w wc := hb0.trans (hb4.mono (by omega))
  clear HM4 Hp4 hb0 hb4
  go_wp2_with fail
  refine (unhide Hc).mono ?_
  rintro e w6 ⟨he, hM6, hp6, hb6, hk6⟩
  subst he
  have hc6 := cell_of_box hp6
  have hl6 : mb + 1 < w6.heap.size := (Array.getElem?_eq_some_iff.1 hp6).1
  have HM6 := hide hM6
  clear hM6 hp6 hk6 Hc
  go_wp2
  go_ret
  have h9 := unhide HM6
  rw [unhide Hfin] at h9
  exact ⟨⟨mb, _, vr, rfl, ⟨_, h9⟩⟩, hbw.trans hb6⟩

end Go.Proofs.Ytngjakeofhmohaa

/- Walks: Mark. -/
namespace Go.Proofs.Ytngjakeofhmohaa
set_option linter.unusedSimpArgs false
set_option linter.unusedVariables false
open Go.RowKit Go.Shelf

/-- What Mark tells of an arena that may be, and a room that may be. -/
def MrkOk (ws rs : List Int) (e : Ending) (W : World) : Prop :=
  ∃ hs fs p a c a' c', Arn hs fs rs ∧ ws = joinW hs fs ∧ (∀ j, p j = true ↔ Rch fs rs j) ∧ e = .returned (.tuple #[.agg #[.slice a (mW hs fs p).length c, .slice a' rs.length c'], .int .i64 0]) ∧ Wds W.heap.size W a (mW hs fs p) ∧ (mW hs fs p).length ≤ c ∧ Wds W.heap.size W a' rs

/-- What Mark tells. -/
def MrkRes (ws rs : List Int) (room : Int) (e : Ending) (W : World) : Prop :=
  (arenaE ws rs ≠ 0 ∧ e = .returned (.tuple #[.agg #[.slice none 0 0, .slice none 0 0], .int .i64 (arenaE ws rs)])) ∨
  (arenaE ws rs = 0 ∧ (room < 1 ∨ 64 < room) ∧ e = .returned (.tuple #[.agg #[.slice none 0 0, .slice none 0 0], .int .i64 3])) ∨
  (arenaE ws rs = 0 ∧ 1 ≤ room ∧ room ≤ 64 ∧ MrkOk ws rs e W)

theorem row_wds {w : World} {N mb : Nat} {l : List Int} {v u : Value} {off : Nat} (h : w.ownsRow N 52 1 v l.length (wordsV l)) (hl : l.length ≤ 256) (hb : mb < N) : ∃ a c, v = .slice a l.length c ∧ Wds w.heap.size w a l ∧ l.length ≤ c ∧ Hid (∀ b o, a = some ⟨b, o, none⟩ → N ≤ b) := by
  obtain ⟨a, c, hv, hW, hn⟩ := words_of_owns h rfl (by omega)
  refine ⟨a, c, hv, hW, ?_, hn⟩
  rcases h.2 with ⟨_, h0⟩ | ⟨g, cap', cur, hv', h1, h2, h3, h4, h5, h6⟩
  · omega
  · rw [hv] at hv'; injection hv' with _ _ e; omega

theorem wds_set {B N : Nat} {w : World} {a : Option Addr} {l : List Int} (h : Wds B w a l) (hn : Hid (∀ b o, a = some ⟨b, o, none⟩ → N ≤ b)) {p : Addr} (hp : p.block < N) (u : Value) : Wds B (w.setCell p u) a l := by
  refine ⟨h.1, fun hne => ?_⟩
  obtain ⟨b, off, rfl, hB, hc⟩ := h.2 hne
  have := unhide hn b off rfl
  refine ⟨b, off, rfl, hB, fun k v hk => ?_⟩
  rw [World.cell?_of_block (a := ⟨b, off + k, none⟩) (Below.heap_setCell _ _ _ _ (by show b ≠ _; omega))]
  exact hc k v hk

set_option maxRecDepth 100000 in
set_option maxHeartbeats 2000000 in
theorem mark_c (aw ar : Option Addr) (cw cr : Nat) (ws rs : List Int) (room : Int) (B : Nat) (w : World) (hW : Wds B w aw ws) (hR : Wds B w ar rs) (hUW : U64 ws) (hUR : U64 rs) (hB : B ≤ w.heap.size) (hcap : ws.length ≤ cw) :
    Calls Try.prog 14 #[.agg #[.slice aw ws.length cw, .slice ar rs.length cr], .int .i64 room] w fun e w' => MrkRes ws rs room e w' ∧ Below w.heap.size w w' := by
  obtain ⟨W1, hW1⟩ : ∃ W1, (w.alloc (.cells #[.slice aw ws.length cw, .slice ar rs.length cr] 24)).alloc (.cells #[.slice none 0 0, .slice none 0 0] 24) = W1 := ⟨_, rfl⟩
  have hb1 : Below w.heap.size w W1 := by rw [← hW1]; exact ((Below.refl w.heap.size w).alloc (Nat.le_refl _) _).alloc (by simp) _
  have hs1 : w.heap.size + 1 < W1.heap.size := by rw [← hW1]; simp
  have g0 : W1.cell? ⟨w.heap.size, 0, none⟩ = some (.slice aw ws.length cw) := by rw [← hW1]; simp [go_sem]
  have g1 : W1.cell? ⟨w.heap.size, 1, none⟩ = some (.slice ar rs.length cr) := by rw [← hW1]; simp [go_sem]
  have r0 : W1.cell? ⟨w.heap.size + 1, 0, none⟩ = some (.slice none 0 0) := by rw [← hW1]; simp [go_sem]
  have r1 : W1.cell? ⟨w.heap.size + 1, 1, none⟩ = some (.slice none 0 0) := by rw [← hW1]; simp [go_sem]
  have z0 : W1.frozen? ⟨w.heap.size + 1, 0, none⟩ = false := by rw [← hW1]; simp [go_sem]
  have z1 : W1.frozen? ⟨w.heap.size + 1, 1, none⟩ = false := by rw [← hW1]; simp [go_sem]
  have Hc1 := hide (acheck_c aw ar cw cr ws rs B W1 (hW.below (hb1.mono hB)) (hR.below (hb1.mono hB)) hUW hUR (by omega) hcap)
  go_enter Try.func14, Try.ntmps14
  go_wp2_with fail
  refine (unhide Hc1).mono ?_
  rintro e w2 ⟨rfl, hb2⟩
  clear hW1 Hc1
  have hs2 := hb2.size
  have hbw2 : Below w.heap.size w w2 := hb1.trans (hb2.mono (by omega))
  replace g0 := (hb2.cell (p := ⟨w.heap.size, 0, none⟩) (by simp; omega)).trans g0
  replace g1 := (hb2.cell (p := ⟨w.heap.size, 1, none⟩) (by simp; omega)).trans g1
  replace r0 := (hb2.cell (p := ⟨w.heap.size + 1, 0, none⟩) hs1).trans r0
  replace r1 := (hb2.cell (p := ⟨w.heap.size + 1, 1, none⟩) hs1).trans r1
  replace z0 := (hb2.frozen (p := ⟨w.heap.size + 1, 0, none⟩) hs1).trans z0
  replace z1 := (hb2.frozen (p := ⟨w.heap.size + 1, 1, none⟩) hs1).trans z1
  have hl2 : w.heap.size + 1 < w2.heap.size := by omega
  have hl2' : w.heap.size < w2.heap.size := by omega
  clear hb1 hb2
  by_cases hE : arenaE ws rs = 0
  · by_cases hr : room < 1 ∨ 64 < room
    · have HE := hide hE
      have Hr := hide hr
      rw [hE]
      have hfin : Hid (∀ W, Below w.heap.size w W → MrkRes ws rs room (.returned (.tuple #[.agg #[.slice none 0 0, .slice none 0 0], .int .i64 3])) W ∧ Below w.heap.size w W) := fun W h => ⟨.inr (.inl ⟨unhide HE, unhide Hr, rfl⟩), h⟩
      clear hE
      rcases hr with hr | hr
      · have d1 : decide (room < 1) = true := by simpa using hr
        go_wp2
        refine bodyPost_ret (v := .tuple #[.agg #[.slice none 0 0, .slice none 0 0], .int .i64 3]) (by simp [results, Try.results14, go_sem, r0, r1]) rfl (unhide hfin _ ((hbw2.setCell (p := ⟨w.heap.size + 1, 0, none⟩) (by simp) _).setCell (p := ⟨w.heap.size + 1, 1, none⟩) (by simp) _))
      · have d1 : decide (room < 1) = false := by simp; omega
        have d2 : decide (room > 64) = true := by simp; omega
        have d3 : decide (64 < room) = true := by simp; omega
        go_wp2
        refine bodyPost_ret (v := .tuple #[.agg #[.slice none 0 0, .slice none 0 0], .int .i64 3]) (by simp [results, Try.results14, go_sem, r0, r1]) rfl (unhide hfin _ ((hbw2.setCell (p := ⟨w.heap.size + 1, 0, none⟩) (by simp) _).setCell (p := ⟨w.heap.size + 1, 1, none⟩) (by simp) _))
    · obtain ⟨rN, rfl⟩ := Int.eq_ofNat_of_zero_le (show 0 ≤ room by omega)
      have hr1 : 1 ≤ rN := by omega
      have hr2 : rN ≤ 64 := by omega
      obtain ⟨hs, fs, hA, hws⟩ := arn_of hUW hUR hE
      have hjl : tot fs = ws.length := by rw [hws, joinW_len _ _ hA.fit.len]
      have HA := hide hA
      have Hws := hide hws
      have HE := hide hE
      rw [hE]
      have Hc2 : Hid (Calls Try.prog 33 #[.agg #[.slice aw ws.length cw, .slice ar rs.length cr], .int .i64 (rN : Nat)] w2 fun e w' => NmRes w2.heap.size hs fs rs rN e w' ∧ Below w2.heap.size w2 w') := by
        have := newMarker_c aw ar cw cr hs fs rs rN w2 hA hr1 hr2 (by rw [← hws]; exact (hW.below (hbw2.mono hB)).mono (by omega)) ((hR.below (hbw2.mono hB)).mono (by omega))
        rw [hjl] at this
        exact this
      have d1 : decide ((rN : Int) < 1) = false := by simp; omega
      have d2 : decide ((rN : Int) > 64) = false := by simp; omega
      have d3 : decide (64 < (rN : Int)) = false := by simp; omega
      clear hE hr hA hws hjl
      go_wp2_with fail
      refine (unhide Hc2).mono ?_
      rintro e w3 ⟨⟨mb, vw, vr, he, hM3⟩, hb3⟩
      subst he
      have Hc3 := hide (markAll_c hs fs rs w2.heap.size mb vw vr rN w3 hM3 (unhide HA) hr1 hr2)
      clear hM3 Hc2
      go_wp2_with fail
      refine (unhide Hc3).mono ?_
      rintro e w4 ⟨⟨he, p, ⟨vk, hM4⟩, hp4⟩, hb4, _⟩
      subst he
      have hs3 := hb3.size
      have hs4 := hb4.size
      have hb34 : Below w2.heap.size w2 w4 := hb3.trans hb4
      have hbw4 : Below w.heap.size w w4 := hbw2.trans (hb34.mono (by omega))
      replace r0 := (hb34.cell (p := ⟨w.heap.size + 1, 0, none⟩) hl2).trans r0
      replace r1 := (hb34.cell (p := ⟨w.heap.size + 1, 1, none⟩) hl2).trans r1
      replace z0 := (hb34.frozen (p := ⟨w.heap.size + 1, 0, none⟩) hl2).trans z0
      replace z1 := (hb34.frozen (p := ⟨w.heap.size + 1, 1, none⟩) hl2).trans z1
      have hml := mW_len (unhide HA).fit p
      obtain ⟨wa, wc, hvw, hWw, hwc, hwn⟩ := row_wds (mb := 0) (u := .bool true) (off := 0) hM4.wo (by rw [hml]; exact (unhide HA).n256) (by omega)
      obtain ⟨ra, rc, hvr, hWr, _, hrn⟩ := row_wds (mb := 0) (u := .bool true) (off := 0) hM4.ro (by have := (unhide HA).n8; omega) (by omega)
      subst hvw hvr
      have q0 := hM4.box.c0
      have q1 := hM4.box.c1
      have hlm := hM4.box.lt
      have hl4 : w.heap.size + 1 < w4.heap.size := by omega
      have hmb : w2.heap.size ≤ mb := hM4.lo
      have Hfin : Hid (∀ W, W = (w4.setCell ⟨w.heap.size + 1, 0, none⟩ (.slice wa (mW hs fs p).length wc)).setCell ⟨w.heap.size + 1, 1, none⟩ (.slice ra rs.length rc) → MrkRes ws rs (rN : Int) (.returned (.tuple #[.agg #[.slice wa (mW hs fs p).length wc, .slice ra rs.length rc], .int .i64 0])) W ∧ Below w.heap.size w W) := fun W h => by
        subst h
        have hsz : ((w4.setCell ⟨w.heap.size + 1, 0, none⟩ (.slice wa (mW hs fs p).length wc)).setCell ⟨w.heap.size + 1, 1, none⟩ (.slice ra rs.length rc)).heap.size = w4.heap.size := by simp [World.setCell]
        refine ⟨.inr (.inr ⟨unhide HE, by omega, by omega, hs, fs, p, wa, wc, ra, rc, unhide HA, unhide Hws, hp4, rfl, ?_, hwc, ?_⟩), (hbw4.setCell (p := ⟨w.heap.size + 1, 0, none⟩) (by simp) _).setCell (p := ⟨w.heap.size + 1, 1, none⟩) (by simp) _⟩
        · rw [hsz]; exact wds_set (wds_set hWw hwn (by show w.heap.size + 1 < _; omega) _) hwn (by show w.heap.size + 1 < _; omega) _
        · rw [hsz]; exact wds_set (wds_set hWr hrn (by show w.heap.size + 1 < _; omega) _) hrn (by show w.heap.size + 1 < _; omega) _
      clear hM4 hp4 hml hWw hWr hwn hrn Hc3 hb3 hb4 hb34 hwc
      generalize (mW hs fs p).length = n at *
      go_wp2
      exact bodyPost_ret (v := .tuple #[.agg #[.slice wa n wc, .slice ra rs.length rc], .int .i64 0]) (by simp [results, Try.results14, go_sem, r0, r1]) rfl (unhide Hfin _ rfl)
  · have HE := hide hE
    have hfin : Hid (∀ W, Below w.heap.size w W → MrkRes ws rs room (.returned (.tuple #[.agg #[.slice none 0 0, .slice none 0 0], .int .i64 (arenaE ws rs)])) W ∧ Below w.heap.size w W) := fun W h => ⟨.inl ⟨unhide HE, rfl⟩, h⟩
    generalize arenaE ws rs = E at *
    have d0 : (E != 0) = true := by simpa using hE
    clear hE
    go_wp2
    refine bodyPost_ret (v := .tuple #[.agg #[.slice none 0 0, .slice none 0 0], .int .i64 E]) (by simp [results, Try.results14, go_sem, r0, r1]) rfl (unhide hfin _ ((hbw2.setCell (p := ⟨w.heap.size + 1, 0, none⟩) (by simp) _).setCell (p := ⟨w.heap.size + 1, 1, none⟩) (by simp) _))

end Go.Proofs.Ytngjakeofhmohaa

/- Walks: the document's Words, Arenas, packed. -/
namespace Go.Proofs.Ytngjakeofhmohaa
set_option linter.unusedSimpArgs false
set_option linter.unusedVariables false
open Go.RowKit Go.Shelf

set_option maxRecDepth 100000 in
set_option maxHeartbeats 1000000 in
theorem words_eq_c (a1 a2 : Option Addr) (c1 c2 : Nat) (l1 l2 : List Int) (B : Nat) (w : World) (h1 : Wds B w a1 l1) (h2 : Wds B w a2 l2) (hB : B ≤ w.heap.size) :
    Calls Try.prog 27 #[.slice a1 l1.length c1, .slice a2 l2.length c2] w fun e w' => e = .returned (.bool (decide (l1 = l2))) ∧ Below w.heap.size w w' := by
  have hl1 := h1.1
  have hl2 := h2.1
  by_cases hl : l1.length = l2.length
  · have d1 : ((l1.length : Int) != (l2.length : Int)) = false := by simp [hl]
    have d2 : ((l2.length : Int) != (l2.length : Int)) = false := by simp
    rw [hl]
    have Hl := hide hl
    have hle : l1.length ≤ l2.length := by omega
    have hge : l2.length ≤ l1.length := by omega
    clear hl
    go_enter Try.func27, Try.ntmps27
    go_wp2
    go_loopw [5] (fun i wr => ∃ k : Nat, k ≤ l2.length ∧ i = .int .i64 k ∧ Hid (l1.take k = l2.take k) ∧ Below w.heap.size w wr) (fun i _ => l2.length - (intOf i).toNat)
    case atStart => exact ⟨0, Nat.zero_le _, rfl, by show l1.take 0 = l2.take 0; simp, Below.refl _ _⟩
    case round =>
      obtain ⟨k, hk, rfl, Heq, hb⟩ := hrel
      by_cases hlt : k < l2.length
      · have hlt1 : k < l1.length := by omega
        obtain ⟨b1, o1, rfl, hbB1, hx1⟩ := (h1.below (hb.mono hB)).at hlt1
        obtain ⟨b2, o2, rfl, hbB2, hx2⟩ := (h2.below (hb.mono hB)).at hlt
        have hltI : (k : Int) < (l2.length : Int) := by omega
        have HT1 := hide (List.take_succ_eq_append_getElem hlt1)
        have HT2 := hide (List.take_succ_eq_append_getElem hlt)
        have HN : Hid (l1 = l2 → l1[k] = l2[k]) := by intro e; subst e; rfl
        generalize l1[k] = x at *
        generalize l2[k] = y at *
        by_cases hxy : x = y
        · have d : (x != y) = false := by simpa using hxy
          have Hxy := hide hxy
          clear hxy
          go_wp2
          go_still Try.mixed
          go_wp2
          go_roundw
          case rel => exact ⟨k + 1, by omega, by go_num, by show l1.take (k + 1) = _; rw [unhide HT1, unhide HT2, unhide Heq, unhide Hxy], hb.trans (Below.refl _ _).drew⟩
          case measure => simp [intOf]; omega
        · have d : (x != y) = true := by simpa using hxy
          have Hxy := hide hxy
          clear hxy
          go_wp2
          go_still Try.mixed
          go_wp2
          go_ret
          exact ⟨ret_bool (Eq.symm (decide_eq_false (fun e => unhide Hxy (unhide HN e)))), hb.trans (Below.refl _ _).drew⟩
      · obtain rfl : k = l2.length := by omega
        have Hfin : Hid (l1 = l2) := by
          have := unhide Heq
          rw [List.take_length, List.take_of_length_le hle] at this
          exact this
        go_wp2
        go_ret
        exact ⟨ret_bool (Eq.symm (decide_eq_true (unhide Hfin))), hb⟩
  · have d1 : ((l1.length : Int) != (l2.length : Int)) = true := by simp; omega
    go_enter Try.func27, Try.ntmps27
    go_wp2
    go_ret
    exact ⟨ret_bool (Eq.symm (decide_eq_false (fun e => hl (by rw [e])))), Below.refl _ _⟩

set_option maxRecDepth 100000 in
set_option maxHeartbeats 1000000 in
theorem arenas_eq_c (aw ar bw br : Option Addr) (cw cr dw dr : Nat) (ws rs vs us : List Int) (B : Nat) (w : World) (h1 : Wds B w aw ws) (h2 : Wds B w ar rs) (h3 : Wds B w bw vs) (h4 : Wds B w br us) (hB : B ≤ w.heap.size) :
    Calls Try.prog 8 #[.agg #[.slice aw ws.length cw, .slice ar rs.length cr], .agg #[.slice bw vs.length dw, .slice br us.length dr]] w fun e w' => e = .returned (.bool (decide (ws = vs) && decide (rs = us))) ∧ Below w.heap.size w w' := by
  obtain ⟨W0, hW0⟩ : ∃ W0, (w.alloc (.cells #[.slice aw ws.length cw, .slice ar rs.length cr] 24)).alloc (.cells #[.slice bw vs.length dw, .slice br us.length dr] 24) = W0 := ⟨_, rfl⟩
  have hb0 : Below w.heap.size w W0 := by rw [← hW0]; exact ((Below.refl _ _).alloc (Nat.le_refl _) _).alloc (by simp) _
  have hs0 : w.heap.size + 1 < W0.heap.size := by rw [← hW0]; simp
  have g0 : W0.cell? ⟨w.heap.size, 0, none⟩ = some (.slice aw ws.length cw) := by rw [← hW0]; simp [go_sem]
  have g1 : W0.cell? ⟨w.heap.size, 1, none⟩ = some (.slice ar rs.length cr) := by rw [← hW0]; simp [go_sem]
  have k0 : W0.cell? ⟨w.heap.size + 1, 0, none⟩ = some (.slice bw vs.length dw) := by rw [← hW0]; simp [go_sem]
  have k1 : W0.cell? ⟨w.heap.size + 1, 1, none⟩ = some (.slice br us.length dr) := by rw [← hW0]; simp [go_sem]
  have Hc1 := hide (words_eq_c aw bw cw dw ws vs B W0 (h1.below (hb0.mono hB)) (h3.below (hb0.mono hB)) (by omega))
  go_enter Try.func8, Try.ntmps8
  go_wp2_with fail
  refine (unhide Hc1).mono ?_
  rintro e w2 ⟨he, hb2⟩
  subst he
  clear hW0 Hc1
  have hs2 := hb2.size
  have hbw2 : Below w.heap.size w w2 := hb0.trans (hb2.mono (by omega))
  replace g1 := (hb2.cell (p := ⟨w.heap.size, 1, none⟩) (by simp; omega)).trans g1
  replace k1 := (hb2.cell (p := ⟨w.heap.size + 1, 1, none⟩) hs0).trans k1
  cases hd : decide (ws = vs)
  · have Hd := hide hd
    clear hd
    go_wp2
    go_ret
    exact ⟨ret_bool (by have := unhide Hd; simp at this; simp [this]), hbw2⟩
  · have Hd := hide hd
    clear hd
    have Hc2 := hide (words_eq_c ar br cr dr rs us B w2 (h2.below (hbw2.mono hB)) (h4.below (hbw2.mono hB)) (by omega))
    go_wp2_with fail
    refine (unhide Hc2).mono ?_
    rintro e w3 ⟨he, hb3⟩
    subst he
    go_wp2
    go_ret
    exact ⟨ret_bool (by have := unhide Hd; simp at this; simp [this]), hbw2.trans (hb3.mono (by omega))⟩

theorem words_take_succ {l : List V} {st : List Int} {k : Nat} (hk : k < l.length) {x : Int} (h : packV st l[k] = x) : wordsV ((l.map (packV st)).take (k + 1)) = wordsV ((l.map (packV st)).take k) ++ [.int .u64 x] := by
  rw [List.take_succ_eq_append_getElem (by simpa using hk), List.getElem_map, h, wordsV_snoc]

set_option maxRecDepth 100000 in
set_option maxHeartbeats 2000000 in
theorem rpacked_c (a s0 : Option Addr) (cap caps : Nat) (l : List V) (st : List Int) (B : Nat) (w : World) (hV : Vals B w a l) (hS : Ints B w s0 st) (hB : B ≤ w.heap.size) (hl : l.length ≤ 1000)
    (hr : ∀ v ∈ l, v.1 = true → 0 ≤ v.2 ∧ v.2 < st.length) (hst : ∀ x ∈ st, 0 ≤ x ∧ x ≤ 9223372036854775807) (hn : ∀ v ∈ l, v.1 = false → -9223372036854775808 ≤ v.2 ∧ v.2 ≤ 9223372036854775807) (hsl : st.length ≤ 1000) :
    Calls Try.prog 44 #[.slice a l.length cap, .slice s0 st.length caps] w fun e w' => ∃ a' cap', e = .returned (.slice a' (l.map (packV st)).length cap') ∧ WdsF w.heap.size w' a' (l.map (packV st)) ∧ Below w.heap.size w w' := by
  obtain ⟨i0, hi, hz0, hz1, hz2⟩ := info_parts Try.info52
  go_enter Try.func44, Try.ntmps44
  go_wp2
  go_loopw [5, 12] (fun s i wr => ∃ k : Nat, k ≤ l.length ∧ i = .int .i64 k ∧ wr.ownsRow w.heap.size 52 1 s k (wordsV ((l.map (packV st)).take k)) ∧ Below w.heap.size w wr) (fun _ i _ => l.length - (intOf i).toNat)
  case atStart => exact ⟨0, Nat.zero_le _, rfl, by simpa [wordsV] using World.ownsRow_nil _ _ _ _, Below.refl _ _⟩
  case round =>
    obtain ⟨k, hk, rfl, hown, hb⟩ := hrel
    have hsz := hb.size
    by_cases hlt : k < l.length
    · obtain ⟨b, off, r, m, rfl, hbB, hc1, hc2, Hv⟩ := (hV.below (hb.mono hB)).at hlt
      have hmem : (r, m) ∈ l := by rw [← Hv.out]; exact List.getElem_mem hlt
      have HT := hide (fun x h => words_take_succ (st := st) hlt (x := x) h)
      rw [Hv.out] at HT
      cases r
      · have hrng := hn _ hmem rfl
        have HT2 := hide (unhide HT _ packV_num)
        clear HT Hv
        have Hc := hide (rpack_c false m (wr.alloc (.cells #[.bool false, .int .i64 m] 61)) hrng.1 hrng.2)
        go_wp2_with fail
        refine (unhide Hc).mono ?_
        rintro e w3 ⟨he, hb3⟩
        subst he
        simp only [World.size_alloc] at hb3
        have hs3 := hb3.size
        simp only [World.size_alloc] at hs3
        have hown3 := ownsRow_below (hown.alloc (.cells #[.bool false, .int .i64 m] 61)) (by simpa using hb3)
        have hbw3 : Below w.heap.size w w3 := (hb.alloc (by omega) _).trans (hb3.mono (by omega))
        clear hown Hc
        go_wp2_with (at_builtin; go_must (refine wpList_append_own _ rfl _ _ 22 rfl w.heap.size 52 i0 _ 1 8 Try.underlying22 hi hz0 hz1 hz2 rfl (by decide) _ _ _ rfl (hown3.alloc _) ⟨w3.heap.size, 0, none⟩ 1 1 [.int .u64 (packW false m)] rfl rfl (cell_one_at _ _ _ _ (by simp)) (by simp [Value.oneCell']) (by simp only [maxLen]; omega) (by omega) (by simp; omega) ?_); intro v' w1 hown' hgrow _)
        go_roundw
        case rel => exact ⟨k + 1, by omega, by go_num, by rw [unhide HT2]; exact hown', (hbw3.alloc (by omega) _).grown hgrow (by simp; omega) (fun q e => (hown3.lt q e).1)⟩
        case measure => simp [intOf]; omega
      · have hrng := hr _ hmem rfl
        obtain ⟨mn, rfl⟩ := Int.eq_ofNat_of_zero_le hrng.1
        have hmn : mn < st.length := by have := hrng.2; simp at this; omega
        have hxr := hst _ (List.getElem_mem hmn)
        obtain ⟨b2, off2, rfl, hbB2, hx⟩ := (hS.below (hb.mono hB)).at hmn
        have HT2 := hide (unhide HT (packW true st[mn]) (by simp [packV, List.getD_eq_getElem?_getD, hmn]))
        have hmnI : (mn : Int) < (st.length : Int) := by omega
        have hb2w : b2 < wr.heap.size := by omega
        clear HT Hv hrng
        generalize st[mn] = p at *
        have Hc := hide (rpack_c true p (wr.alloc (.cells #[.bool true, .int .i64 p] 61)) (by omega) (by omega))
        go_wp2_with fail
        refine (unhide Hc).mono ?_
        rintro e w3 ⟨he, hb3⟩
        subst he
        simp only [World.size_alloc] at hb3
        have hs3 := hb3.size
        simp only [World.size_alloc] at hs3
        have hown3 := ownsRow_below (hown.alloc (.cells #[.bool true, .int .i64 p] 61)) (by simpa using hb3)
        have hbw3 : Below w.heap.size w w3 := (hb.alloc (by omega) _).trans (hb3.mono (by omega))
        clear hown Hc
        go_wp2_with (at_builtin; go_must (refine wpList_append_own _ rfl _ _ 22 rfl w.heap.size 52 i0 _ 1 8 Try.underlying22 hi hz0 hz1 hz2 rfl (by decide) _ _ _ rfl (hown3.alloc _) ⟨w3.heap.size, 0, none⟩ 1 1 [.int .u64 (packW true p)] rfl rfl (cell_one_at _ _ _ _ (by simp)) (by simp [Value.oneCell']) (by simp only [maxLen]; omega) (by omega) (by simp; omega) ?_); intro v' w1 hown' hgrow _)
        go_roundw
        case rel => exact ⟨k + 1, by omega, by go_num, by rw [unhide HT2]; exact hown', (hbw3.alloc (by omega) _).grown hgrow (by simp; omega) (fun q e => (hown3.lt q e).1)⟩
        case measure => simp [intOf]; omega
    · obtain rfl : k = l.length := by omega
      rw [List.take_of_length_le (by simp)] at hown
      obtain ⟨a', cap', hv, hWF, _⟩ := wordsF_of_owns hown (by simp) (by omega)
      have HW := hide hWF
      clear hWF
      subst hv
      go_wp2
      go_ret
      exact ⟨a', cap', rfl, unhide HW, hb⟩

end Go.Proofs.Ytngjakeofhmohaa

/- Walks: MarkRoom. -/
namespace Go.Proofs.Ytngjakeofhmohaa
set_option linter.unusedSimpArgs false
set_option linter.unusedVariables false
open Go.RowKit Go.Shelf

/-- What is wrong with what Mark is asked. -/
def mrkE (ws rs : List Int) (room : Int) : Int := if arenaE ws rs ≠ 0 then arenaE ws rs else if room < 1 ∨ 64 < room then 3 else 0

/-- The arena that Mark tells. -/
def MrkIs (ws rs : List Int) (room : Int) (L R : List Int) : Prop :=
  (mrkE ws rs room ≠ 0 ∧ L = [] ∧ R = []) ∨ (mrkE ws rs room = 0 ∧ 1 ≤ room ∧ room ≤ 64 ∧ R = rs ∧ ∃ hs fs p, Arn hs fs rs ∧ ws = joinW hs fs ∧ (∀ j, p j = true ↔ Rch fs rs j) ∧ L = mW hs fs p)

theorem MrkRes.all {ws rs : List Int} {room : Int} {e : Ending} {W : World} (h : MrkRes ws rs room e W) :
    ∃ a c a' c' L R, e = .returned (.tuple #[.agg #[.slice a L.length c, .slice a' R.length c'], .int .i64 (mrkE ws rs room)]) ∧ Wds W.heap.size W a L ∧ Wds W.heap.size W a' R ∧ L.length ≤ c ∧ Hid (MrkIs ws rs room L R) := by
  rcases h with ⟨hE, rfl⟩ | ⟨hE, hr, rfl⟩ | ⟨hE, h1, h2, hs, fs, p, a, c, a', c', hA, hw, hp, rfl, hW, hc, hR⟩
  · have e : mrkE ws rs room = arenaE ws rs := by rw [mrkE, if_pos hE]
    exact ⟨none, 0, none, 0, [], [], by rw [e]; rfl, wds_nil rfl, wds_nil rfl, by simp, hide (.inl ⟨by rw [e]; exact hE, rfl, rfl⟩)⟩
  · have e : mrkE ws rs room = 3 := by rw [mrkE, if_neg (by simp [hE]), if_pos hr]
    exact ⟨none, 0, none, 0, [], [], by rw [e]; rfl, wds_nil rfl, wds_nil rfl, by simp, hide (.inl ⟨by rw [e]; omega, rfl, rfl⟩)⟩
  · have e : mrkE ws rs room = 0 := by rw [mrkE, if_neg (by simp [hE]), if_neg (by omega)]
    exact ⟨a, c, a', c', mW hs fs p, rs, by rw [e], hW, hR, hc, hide (.inr ⟨e, h1, h2, rfl, hs, fs, p, hA, hw, hp, rfl⟩)⟩

theorem arn_uniq {hs hs' : List Int} {fs fs' : List (List Int)} {rs rs' : List Int} (h : Arn hs fs rs) (h' : Arn hs' fs' rs') (e : joinW hs fs = joinW hs' fs') : hs = hs' ∧ fs = fs' := by
  have hf : fs = fs' := by
    have h1 := fit_split h.fit
    rw [e, fit_split h'.fit] at h1
    injection h1 with h1
    exact h1.symm
  subst hf
  refine ⟨?_, rfl⟩
  apply List.ext_getElem?
  intro k
  by_cases hk : k < fs.length
  · rw [← joinW_get hs fs k h.fit.len hk, e, joinW_get hs' fs k h'.fit.len hk]
  · rw [List.getElem?_eq_none (by have := h.fit.len; omega), List.getElem?_eq_none (by have := h'.fit.len; omega)]

theorem bool_fn_eq {p q : Nat → Bool} {R : Nat → Prop} (h1 : ∀ j, p j = true ↔ R j) (h2 : ∀ j, q j = true ↔ R j) : p = q := by
  funext j
  rw [Bool.eq_iff_iff, h1, h2]

/-- However little is kept in mind, the same is marked. -/
theorem MrkIs.same {ws rs : List Int} {r s : Int} {L R L' R' : List Int} (h : MrkIs ws rs r L R) (h' : MrkIs ws rs s L' R') (e : mrkE ws rs r = 0) (e' : mrkE ws rs s = 0) : L = L' ∧ R = R' ∧ L.length = ws.length := by
  rcases h with h | ⟨_, _, _, rfl, hs, fs, p, hA, hw, hp, rfl⟩
  · exact absurd e h.1
  rcases h' with h | ⟨_, _, _, rfl, hs', fs', p', hA', hw', hp', rfl⟩
  · exact absurd e' h.1
  obtain ⟨rfl, rfl⟩ := arn_uniq hA hA' (hw.symm.trans hw')
  rw [bool_fn_eq hp hp']
  exact ⟨rfl, rfl, by rw [hw, mW_len hA.fit, joinW_len _ _ hA.fit.len]⟩

end Go.Proofs.Ytngjakeofhmohaa

/- Walks: VisitRestores. -/
namespace Go.Proofs.Ytngjakeofhmohaa
set_option linter.unusedSimpArgs false
set_option linter.unusedVariables false
open Go.RowKit Go.Shelf

/-- What Visit and Mark tell of one arena. -/
theorem vis_mrk {ws rs : List Int} {e e' : Ending} {W W' : World} (hE : arenaE ws rs = 0) (h : VisRes ws rs e W) (h' : MrkRes ws rs 64 e' W') : ∃ a c a' c' o oc b d b' d' L no, L.length = ws.length ∧ no ≤ ws.length ∧
    e = .returned (.tuple #[.agg #[.slice a ws.length c, .slice a' rs.length c'], .slice o no oc, .int .i64 0]) ∧ e' = .returned (.tuple #[.agg #[.slice b ws.length d, .slice b' rs.length d'], .int .i64 0]) ∧
    Wds W.heap.size W a L ∧ Wds W.heap.size W a' rs ∧ Wds W'.heap.size W' b L ∧ Wds W'.heap.size W' b' rs := by
  rcases h with ⟨h1, _⟩ | ⟨_, hs, fs, a, c, a', c', o, oc, hA, hws, rfl, hW, hc, hR, hO, hoc⟩
  · exact absurd hE h1
  rcases h' with ⟨h1, _⟩ | ⟨_, h1, _⟩ | ⟨_, _, _, hs2, fs2, p, b, d, b', d', hA2, hws2, hp, rfl, hW2, hd, hR2⟩
  · exact absurd hE h1
  · omega
  obtain ⟨rfl, rfl⟩ := arn_uniq hA hA2 (hws.symm.trans hws2)
  obtain rfl := bool_fn_eq hp (visP_rch hA)
  have hl : (mW hs fs (visP fs rs)).length = ws.length := by rw [mW_len hA.fit, hws, joinW_len _ _ hA.fit.len]
  have ho : (plc fs (visL fs rs)).length ≤ ws.length := by rw [plc_len, hws, joinW_len _ _ hA.fit.len]; exact visL_len hA
  exact ⟨a, c, a', c', o, oc, b, d, b', d', mW hs fs (visP fs rs), _, hl, ho, by rw [hl], by rw [hl], hW, hR, hW2, hR2⟩

set_option maxRecDepth 100000 in
set_option maxHeartbeats 2000000 in
theorem restores_c (aw ar : Option Addr) (cw cr : Nat) (ws rs : List Int) (w : World) (hW : Wds w.heap.size w aw ws) (hR : Wds w.heap.size w ar rs) (hUW : U64 ws) (hUR : U64 rs) (hcap : ws.length ≤ cw) :
    Calls Try.prog 4 #[.agg #[.slice aw ws.length cw, .slice ar rs.length cr]] w fun e w' => e = .returned (.bool true) ∧ Below w.heap.size w w' := by
  obtain ⟨W1, hW1⟩ : ∃ W1, w.alloc (.cells #[.slice aw ws.length cw, .slice ar rs.length cr] 24) = W1 := ⟨_, rfl⟩
  have hb1 : Below w.heap.size w W1 := by rw [← hW1]; exact (Below.refl w.heap.size w).alloc (Nat.le_refl _) _
  have hs1 : w.heap.size < W1.heap.size := by rw [← hW1]; simp
  have g0 : W1.cell? ⟨w.heap.size, 0, none⟩ = some (.slice aw ws.length cw) := by rw [← hW1]; simp [go_sem]
  have g1 : W1.cell? ⟨w.heap.size, 1, none⟩ = some (.slice ar rs.length cr) := by rw [← hW1]; simp [go_sem]
  have Hc1 := hide (sound_c aw ar cw cr ws rs w.heap.size W1 (hW.below hb1) (hR.below hb1) hUW hUR (by omega))
  go_enter Try.func4, Try.ntmps4
  go_wp2_with fail
  refine (unhide Hc1).mono ?_
  rintro e w2 ⟨rfl, hb2⟩
  clear hW1 Hc1
  have hs2 := hb2.size
  have hbw2 : Below w.heap.size w w2 := hb1.trans (hb2.mono (by omega))
  replace g0 := (hb2.cell (p := ⟨w.heap.size, 0, none⟩) hs1).trans g0
  replace g1 := (hb2.cell (p := ⟨w.heap.size, 1, none⟩) hs1).trans g1
  have hl2 : w.heap.size < w2.heap.size := by omega
  by_cases hE : arenaE ws rs = 0
  · have d0 : (arenaE ws rs == 0) = true := by simp [hE]
    rw [d0]
    have HE := hide hE
    have Hc2 := hide (visit_c aw ar cw cr ws rs w.heap.size w2 (hW.below hbw2) (hR.below hbw2) hUW hUR (by omega) hcap)
    clear hb1 hb2 hE d0
    go_wp2_with fail
    refine (unhide Hc2).mono ?_
    rintro e w3 ⟨hres, hb3⟩
    have hs3 := hb3.size
    obtain ⟨ba, bc, ba', bc', o, oc, no, hbl, he⟩ : ∃ ba bc ba' bc' o oc no, ws.length = ws.length ∧ e = .returned (.tuple #[.agg #[.slice ba ws.length bc, .slice ba' rs.length bc'], .slice o no oc, .int .i64 0]) := by
      rcases hres with ⟨h1, _⟩ | ⟨_, hs, fs, a, c, a', c', o, oc, hA, hws, he, _⟩
      · exact absurd (unhide HE) h1
      · have hl : (mW hs fs (visP fs rs)).length = ws.length := by rw [mW_len hA.fit, hws, joinW_len _ _ hA.fit.len]
        exact ⟨a, c, a', c', o, oc, _, rfl, by rw [he, hl]⟩
    have Hres := hide hres
    clear hres Hc2 hbl
    subst he
    obtain ⟨W3, hW3⟩ : ∃ W3, w3.alloc (.cells #[.slice ba ws.length bc, .slice ba' rs.length bc'] 24) = W3 := ⟨_, rfl⟩
    have hb3' : Below w3.heap.size w3 W3 := by rw [← hW3]; exact (Below.refl _ w3).alloc (Nat.le_refl _) _
    have hs3' : w3.heap.size < W3.heap.size := by rw [← hW3]; simp
    have k0 : W3.cell? ⟨w3.heap.size, 0, none⟩ = some (.slice ba ws.length bc) := by rw [← hW3]; simp [go_sem]
    have k1 : W3.cell? ⟨w3.heap.size, 1, none⟩ = some (.slice ba' rs.length bc') := by rw [← hW3]; simp [go_sem]
    replace g0 := (hb3'.cell (p := ⟨w.heap.size, 0, none⟩) (by simp; omega)).trans ((hb3.cell (p := ⟨w.heap.size, 0, none⟩) hl2).trans g0)
    replace g1 := (hb3'.cell (p := ⟨w.heap.size, 1, none⟩) (by simp; omega)).trans ((hb3.cell (p := ⟨w.heap.size, 1, none⟩) hl2).trans g1)
    have hbW3 : Below w.heap.size w W3 := (hbw2.trans (hb3.mono (by omega))).trans (hb3'.mono (by omega))
    have hwW3 : w.heap.size < W3.heap.size := by omega
    have Hc3 := hide (mark_c aw ar cw cr ws rs 64 w.heap.size W3 (hW.below hbW3) (hR.below hbW3) hUW hUR (by omega) hcap)
    clear hb3 hbw2
    go_wp2_with fail
    refine (unhide Hc3).mono ?_
    rintro e w4 ⟨hres, hb4⟩
    have hs4 := hb4.size
    obtain ⟨a, c, a', c', o', oc', ca, cc, ca', cc', L, no', hL, hno, he1, he2, hB1, hB2, hC1, hC2⟩ := vis_mrk (unhide HE) (unhide Hres) hres
    clear hres Hres Hc3
    subst he2
    injection he1 with he1
    injection he1 with he1
    simp at he1
    obtain ⟨⟨⟨rfl, rfl⟩, rfl, rfl⟩, rfl, rfl, rfl⟩ := he1
    obtain ⟨W4, hW4⟩ : ∃ W4, w4.alloc (.cells #[.slice ca ws.length cc, .slice ca' rs.length cc'] 24) = W4 := ⟨_, rfl⟩
    have hb4' : Below w4.heap.size w4 W4 := by rw [← hW4]; exact (Below.refl _ w4).alloc (Nat.le_refl _) _
    have hs4' : w4.heap.size < W4.heap.size := by rw [← hW4]; simp
    have m0 : W4.cell? ⟨w4.heap.size, 0, none⟩ = some (.slice ca ws.length cc) := by rw [← hW4]; simp [go_sem]
    have m1 : W4.cell? ⟨w4.heap.size, 1, none⟩ = some (.slice ca' rs.length cc') := by rw [← hW4]; simp [go_sem]
    replace k0 := (hb4'.cell (p := ⟨w3.heap.size, 0, none⟩) (by simp; omega)).trans ((hb4.cell (p := ⟨w3.heap.size, 0, none⟩) (by simp; omega)).trans k0)
    replace k1 := (hb4'.cell (p := ⟨w3.heap.size, 1, none⟩) (by simp; omega)).trans ((hb4.cell (p := ⟨w3.heap.size, 1, none⟩) (by simp; omega)).trans k1)
    replace g0 := (hb4'.cell (p := ⟨w.heap.size, 0, none⟩) (by simp; omega)).trans ((hb4.cell (p := ⟨w.heap.size, 0, none⟩) (by simp; omega)).trans g0)
    have hb34 : Below W3.heap.size W3 W4 := hb4.trans (hb4'.mono hs4)
    have hbW4 : Below w.heap.size w W4 := hbW3.trans (hb34.mono (by omega))
    have hwW4 : w.heap.size < W4.heap.size := by omega
    have hwW3' : w3.heap.size < W4.heap.size := by omega
    have hb3W4 : Below w3.heap.size w3 W4 := hb3'.trans (hb34.mono (by omega))
    have Hc4 := hide (arenas_eq_c ba ba' ca ca' bc bc' cc cc' L rs L rs W4.heap.size W4 ((hB1.below hb3W4).mono (by omega)) ((hB2.below hb3W4).mono (by omega)) ((hC1.below hb4').mono (by omega)) ((hC2.below hb4').mono (by omega)) (Nat.le_refl _))
    have dd : (decide (L = L) && decide (rs = rs)) = true := by simp
    rw [dd, hL] at Hc4
    have hnoI : (no : Int) ≤ (ws.length : Int) := by omega
    have dn : decide ((no : Int) ≤ (ws.length : Int)) = true := by simpa using hnoI
    clear hb3' hb4 hb4' hb34 hb3W4 hB1 hB2 hC1 hC2 hL dd
    go_wp2_with fail
    refine (unhide Hc4).mono ?_
    rintro e w5 ⟨he, hb5⟩
    subst he
    have hs5 := hb5.size
    replace k0 := (hb5.cell (p := ⟨w3.heap.size, 0, none⟩) (by simp; omega)).trans k0
    replace g0 := (hb5.cell (p := ⟨w.heap.size, 0, none⟩) (by simp; omega)).trans g0
    have hw5 : w.heap.size < w5.heap.size := by omega
    have hw5' : w3.heap.size < w5.heap.size := by omega
    clear Hc4
    go_wp2
    go_ret
    exact ⟨ret_bool (by simp; try omega), hbW4.trans (hb5.mono (by omega))⟩
  · have d0 : (arenaE ws rs == 0) = false := by simp [hE]
    have HE := hide hE
    rw [d0]
    have Hc2 := hide (unsound_c aw ar cw cr ws rs w.heap.size w2 (hW.below hbw2) (hR.below hbw2) hUW hUR (by omega) hcap)
    clear hE
    go_wp2_with fail
    refine (unhide Hc2).mono ?_
    rintro e w3 ⟨he, hb3⟩
    have d3 : (arenaE ws rs != 0) = true := by simpa using unhide HE
    rw [d3] at he
    subst he
    go_wp2
    go_ret
    exact ⟨rfl, hbw2.trans (hb3.mono (by omega))⟩

end Go.Proofs.Ytngjakeofhmohaa
