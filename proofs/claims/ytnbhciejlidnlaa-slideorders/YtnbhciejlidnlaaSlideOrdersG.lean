/- Merged texts: Mm Mn Mo Mp Kh Ki Km Kj Tb Kk Kl Kn Ko Kp. -/
import Derived.Test.YtnbhciejlidnlaaProg
import Derived.Test.YtnbhciejlidnlaaSlideOrdersF
import Derived.Deep.RegionLaw
import Derived.Deep.CutRange
import Derived.OwnWalk
import Derived.Deep.RegionWith
import Derived.Lib.QuietBelow
import Derived.BigQuiet
import Derived.Deep.Cut

/- Walks: markAll. -/
namespace Go.Proofs.Ytnbhciejlidnlaa
set_option linter.unusedSimpArgs false
set_option linter.unusedVariables false
open Go.RowKit Go.Shelf
attribute [local go_sem] field51_0 field51_1

theorem unm_mono {p q : Nat → Bool} (h : ∀ j, p j = true → q j = true) (n : Nat) : unm n q ≤ unm n p := by
  unfold unm
  rw [← List.countP_eq_length_filter, ← List.countP_eq_length_filter]
  refine List.countP_mono_left fun x _ hx => ?_
  cases hp : p x
  · rfl
  · rw [h x hp] at hx; cases hx

/-- Whether something was lost, as memory tells. -/
def mesL (mb : Nat) (w : World) : Nat := match w.cell? ⟨mb, 4, none⟩ with
  | some (.bool true) => 1
  | _ => 0

theorem mesL_eq {W : World} {N mb : Nat} {vw vr : Value} {hs : List Int} {fs : List (List Int)} {rs : List Int} {room : Nat} {p : Nat → Bool} {K : List Nat} {lost : Bool} (h : MkA W N mb vw vr hs fs rs room p K lost) : mesL mb W = if lost then 1 else 0 := by
  obtain ⟨vk, h⟩ := h
  unfold mesL
  rw [h.box.c4]
  cases lost <;> rfl

/-- What markAll leaves. -/
def MaRes (N mb : Nat) (vw vr : Value) (hs : List Int) (fs : List (List Int)) (rs : List Int) (room : Nat) (W : World) : Prop :=
  ∃ p, MkA W N mb vw vr hs fs rs room p [] false ∧ ∀ j, p j = true ↔ Rch fs rs j

set_option maxRecDepth 100000 in
set_option maxHeartbeats 2000000 in
theorem markAll_c (hs : List Int) (fs : List (List Int)) (rs : List Int) (N mb : Nat) (vw vr : Value) (room : Nat) (w : World)
    (hM : MkA w N mb vw vr hs fs rs room (fun _ => false) [] false) (hA : Arn hs fs rs) (hr1 : 1 ≤ room) (hroom : room ≤ 64) :
    Calls Try.prog 41 #[.pointer (some ⟨mb, 0, none⟩)] w fun e w' => (e = .returned (.tuple #[]) ∧ MaRes N mb vw vr hs fs rs room w') ∧ Below N w w' ∧ KeepT w w' := by
  have HM0 := hide hM
  have HA := hide hA
  have HF := hide hA.fit
  have h256 := hA.n256
  have HI0 : Hid (Inv fs rs (fun _ => False) (fs.length + 1) (fun _ => false) [] false) := hide ⟨fun j h => (by cases h), by simp, by simp, fun _ j h => (by cases h), by unfold unm; have := List.length_filter_le (fun i => !(fun _ => false) i) (List.range fs.length); rw [List.length_range] at this; omega, fun e => by cases e⟩
  clear hM hA
  go_enter Try.func41, Try.ntmps41
  go_wp2
  go_loopw [] (fun wr => ∃ p lost, Hid (MkA wr N mb vw vr hs fs rs room p [] lost) ∧ Hid (Inv fs rs (fun _ => False) (fs.length + 1) p [] lost) ∧ Below N w wr ∧ Hid (KeepT w wr)) (fun wr => mesU vw fs wr)
  case atStart => exact ⟨_, _, HM0, HI0, Below.refl _ _, hide (KeepT.refl _)⟩
  case round =>
    clear HM0 HI0
    obtain ⟨p, lost, HMA, HI, hb, Hkt⟩ := hrel
    have HmU := hide (mesU_eq (unhide HMA) (unhide HF))
    obtain ⟨vk, hM⟩ := unhide HMA
    have q1 := hM.box.c1
    have hlm := hM.box.lt
    have hmN := hM.lo
    have hNw : N ≤ wr.heap.size := by omega
    obtain ⟨ra, rc, hvr, hrd⟩ := hM.rds (unhide HA).n8
    subst hvr
    have Hun := hide (unmarked_c ra rc rs hs fs p N mb vw _ vk rs _ room lost wr hM (unhide HF) h256 hrd (unhide HA).ur (unhide HA).n8 (unhide HA).okr)
    clear hM hrd
    go_wp2_with fail
    refine (unhide Hun).mono ?_
    rintro e w3 ⟨hres, hb3⟩
    have hs3 := hb3.size
    clear Hun
    rcases hres with ⟨j, hj, hpj, hto, he⟩ | ⟨hall, he⟩
    · subst he
      have Htk := hide (take_c hs fs rs p [] N mb vw _ room j lost w3 ((unhide HMA).below hb3) (unhide HF) h256 hroom (by simp) hj)
      have HI2 := hide ((unhide HI).push hj hpj (rch_root hto))
      have Hu := hide (unm_upd hj hpj)
      clear hto hpj HI HMA
      go_wp2_with fail
      refine (unhide Htk).mono ?_
      rintro e w4 ⟨⟨he, hres⟩, hb4, hk4⟩
      subst he
      have h4 : MkA w4 N mb vw (.slice ra rs.length rc) hs fs rs room (upd p j) ([] ++ [j]) lost := by
        rcases hres with ⟨h1, _⟩ | ⟨_, h2⟩
        · simp at h1; omega
        · exact h2
      have Hcl := hide (climb_c hs fs rs _ _ (upd p j) ([] ++ [j]) N mb vw _ room lost w4 h4 (unhide HA) hroom (by simpa using hr1) (unhide HI2))
      have Hk4 := hide ((unhide Hkt).trans ((KeepT.below hb3).trans hk4))
      have hbw4 : Below N w w4 := (hb.trans (hb3.mono hNw)).trans hb4
      clear hres h4 Htk HI2 hk4
      go_wp2_with fail
      refine (unhide Hcl).mono ?_
      rintro e w5 ⟨⟨he, p', lost', h1, h2, h3⟩, hb5, hk5⟩
      subst he
      have H1 := hide h1
      have H2 := hide h2
      have H3 := hide h3
      have Hk5 := hide ((unhide Hk4).trans hk5)
      clear h1 h2 h3 hk5 Hcl
      go_wp2
      go_roundw
      case rel => exact ⟨p', lost', H1, H2, hbw4.trans hb5, Hk5⟩
      case measure =>
        have := unm_mono (unhide H3) fs.length
        have := unhide Hu
        rw [unhide HmU, mesU_eq (unhide H1) (unhide HF)]
        omega
    · subst he
      have Hall := hide hall
      have HM3 := hide ((unhide HMA).below hb3)
      have Hk3 := hide ((unhide Hkt).trans (KeepT.below hb3))
      have hbw3 : Below N w w3 := hb.trans (hb3.mono hNw)
      clear hall HMA HmU Hkt q1 hlm hNw hb hb3 hs3
      go_wp2
      go_loopw [] (fun wr => ∃ p lost n0, Hid (MkA wr N mb vw (.slice ra rs.length rc) hs fs rs room p [] lost) ∧ Hid (Inv fs rs (fun _ => False) n0 p [] lost) ∧ Hid (∀ j, To fs rs j → p j = true) ∧ Below N w wr ∧ Hid (KeepT w wr)) (fun wr => 2 * mesU vw fs wr + mesL mb wr)
      case atStart => exact ⟨p, lost, _, HM3, HI, Hall, hbw3, Hk3⟩
      case round =>
        clear HM3 HI Hall hbw3 Hk3
        obtain ⟨p, lost, n0, HMA, HI, Hall, hb, Hkt⟩ := hrel
        have HmU := hide (mesU_eq (unhide HMA) (unhide HF))
        have HmL := hide (mesL_eq (unhide HMA))
        have q4 : wr.cell? ⟨mb, 4, none⟩ = some (.bool lost) := by obtain ⟨vk, hM⟩ := unhide HMA; exact hM.box.c4
        have hlm : mb < wr.heap.size := by obtain ⟨vk, hM⟩ := unhide HMA; exact hM.box.lt
        cases lost
        · have HR : Hid (MaRes N mb vw (.slice ra rs.length rc) hs fs rs room wr) := hide ⟨p, unhide HMA, marked_all (unhide HI).rch (unhide Hall) (fun i hi => by
            rcases (unhide HI).cl rfl i hi with h | h | h
            · cases h
            · cases h
            · exact h)⟩
          go_wp2
          exact bodyPost_end (v := .tuple #[]) (results_none rfl _ _ _) rfl ⟨⟨rfl, unhide HR⟩, hb, unhide Hkt⟩
        · have Hag := hide (again_c hs fs rs n0 p N mb vw _ room wr (unhide HMA) (unhide HA) hr1 hroom (unhide HI))
          go_wp2_with fail
          refine (unhide Hag).mono ?_
          rintro e w5 ⟨⟨he, p', lost', h1, h2, h3⟩, hb5, hk5⟩
          subst he
          have H1 := hide h1
          have H2 := hide h2
          have H3 := hide h3
          have Hk5 := hide ((unhide Hkt).trans hk5)
          clear h1 h2 h3 hk5 Hag
          go_wp2
          go_roundw
          case rel => exact ⟨p', lost', _, H1, H2, hide (fun j hj => unhide H3 j (unhide Hall j hj)), hb.trans hb5, Hk5⟩
          case measure =>
            have hm := unm_mono (unhide H3) fs.length
            rw [unhide HmU, unhide HmL, mesU_eq (unhide H1) (unhide HF), mesL_eq (unhide H1)]
            cases lost'
            · simp; omega
            · have := (unhide H2).ls rfl
              simp; omega

end Go.Proofs.Ytnbhciejlidnlaa

/- Walks: newMarker. -/
namespace Go.Proofs.Ytnbhciejlidnlaa
set_option linter.unusedSimpArgs false
set_option linter.unusedVariables false
open Go.RowKit Go.Shelf
attribute [local go_sem] field51_0 field51_1

theorem run_append_words (w : World) (base : Nat) (ty : TypeId) (ar : Option Addr) (l : List Int) (c : Nat) (hW : Wds w.heap.size w ar l) (hl : l.length ≤ 256) (hbase : base ≤ w.heap.size) :
    ∃ v' w', (Builtin.append_ #[22, 22] ty #[.slice none 0 0, .slice ar l.length c]).run Try.prog w = .ok v' w' ∧ w'.ownsRow base 51 1 v' l.length (wordsV l) ∧ w.grownBy w' none ∧ (v'.ownBlock = none ∨ v'.ownBlock = some w.heap.size) := by
  obtain ⟨i0, hi0, hz0, hz1, hz2⟩ := info_parts Try.info51m
  cases ar with
  | none =>
    have h0 : l = [] := by
      cases l with
      | nil => rfl
      | cons x l => obtain ⟨b, off, e, _⟩ := hW.2 (by simp); cases e
    subst h0
    refine ⟨.slice none 0 0, w, ?_, World.ownsRow_nil _ _ _ _, ⟨rfl, rfl, rfl, Nat.le_refl _, fun _ _ _ => rfl⟩, .inl rfl⟩
    simp [Builtin.append_, run_underlying Try.underlying22, sizeOf, typeInfo, hi0, Builtin.lenOf, Builtin.firstCells]
  | some ad =>
    have hn : ∀ j u, (wordsV l)[j]? = some u → w.cell? (ad.add j) = some u := by
      intro j u hj
      obtain ⟨b, off, e, _, hc⟩ := hW.2 (by rintro rfl; simp [wordsV] at hj)
      have e' := Option.some.inj e
      subst e'
      rw [Go.WideShapes.add_plain]
      simp only [wordsV, List.getElem?_map, Option.map_eq_some_iff] at hj
      obtain ⟨x, hx, rfl⟩ := hj
      exact hc j x hx
    obtain ⟨v', w', h1, h2, h3, _, h5⟩ := run_append_own_at (P := Try.prog) w base 22 ty 51 i0 (.int .u64 0) 1 8 Try.underlying22 hi0 hz0 hz1 hz2 rfl (by decide) (.slice none 0 0) 0 [] (World.ownsRow_nil _ _ _ _) ad l.length c (wordsV l) (by simp [wordsV]) hn (by intro u hu; simp only [wordsV, List.mem_map] at hu; obtain ⟨x, _, rfl⟩ := hu; rfl) (by simp only [maxLen]; omega) (by omega) hbase
    rw [Nat.zero_add, List.nil_append] at h2
    exact ⟨v', w', h1, h2, h3, h5⟩

theorem step_append_words {ops : Array Oper} {o : Oper} {a : Act} {w : World} {K : Act → World → Prop} {Q : Exit → Act → World → Prop} {E : Prop} (hgd : o.guard = none) (s x : Operand)
    (ho : o.op = .call { callee := .builtin .append, args := #[s, x], argTypes := #[22, 22] }) (base : Nat) (ar : Option Addr) (l : List Int) (c : Nat) (hs : a.eval s = .slice none 0 0) (hx : a.eval x = .slice ar l.length c) (hW : Wds w.heap.size w ar l) (hl : l.length ≤ 256) (hbase : base ≤ w.heap.size)
    (h : ∀ v' w', w'.ownsRow base 51 1 v' l.length (wordsV l) → w.grownBy w' none → (v'.ownBlock = none ∨ v'.ownBlock = some w.heap.size) → K (a.put o.dst v') w') :
    if Region.wanted o (yielded ops a.tmps) = true then Oper.wp Try.prog o a w K Q else E := by
  have hw : Region.wanted o (yielded ops a.tmps) = true := by simp [Region.wanted, hgd]
  rw [if_pos hw]
  obtain ⟨v', w', hr, h2, h3, h5⟩ := run_append_words w base o.type ar l c hW hl hbase
  unfold Oper.wp execOp
  simp only [ho, resolve, invoke, builtin, Sem.run_bind, Sem.run_pure, Result.andThen_ok, List.map_toArray, List.map_cons, List.map_nil, hs, hx, hr]
  exact h v' w' h2 h3 h5

theorem grown_own {W w1 : World} {base : Nat} {e : TypeId} {size : Nat} {v : Value} {n : Nat} {xs : List Value} (h : W.ownsRow base e size v n xs) (hg : W.grownBy w1 none) : w1.ownsRow base e size v n xs := h.kept hg (by cases hv : v.ownBlock <;> simp)

/-- Behind the first append and its store. -/
theorem Mk.first {W w1 : World} {N mb : Nat} {vr vk v' : Value} {ws rs K : List Int} {room : Nat} {lost : Bool} (h : Mk W N mb (.slice none 0 0) vr vk [] rs K room lost) (hrow : w1.ownsRow N 51 1 v' ws.length (wordsV ws)) (hg : W.grownBy w1 none)
    (hat : v'.ownBlock = none ∨ v'.ownBlock = some W.heap.size) : MBox w1 mb (.slice none 0 0) vr room vk lost ∧ Mk (w1.setCell ⟨mb, 0, none⟩ v') N mb v' vr vk ws rs K room lost := by
  have hbox : MBox w1 mb (.slice none 0 0) vr room vk lost := h.box.kept (hg.block _ h.box.lt (by simp))
  have new : ∀ {u : Value}, (∀ k, u.ownBlock = some k → k < W.heap.size) → ∀ k, v'.ownBlock = some k → u.ownBlock ≠ some k := by
    intro u h1 k hk e
    rcases hat with h | h
    · rw [h] at hk; cases hk
    · rw [h] at hk; injection hk with hk; have := h1 k e; omega
  have hg2 := grown_set w1 mb 0 v'
  have ne : v'.ownBlock ≠ some mb := fun e => by
    rcases hat with h1 | h1
    · rw [h1] at e; cases e
    · rw [h1] at e; injection e with e; have := h.box.lt; omega
  exact ⟨hbox, hbox.set0 v', h.lo, hrow.kept hg2 (or_ne ne), (grown_own h.ro hg).kept hg2 (or_ne h.ar), (grown_own h.ko hg).kept hg2 (or_ne h.ak), ne, h.ar, h.ak, new (fun k hk => (h.ro.lt k hk).2), new (fun k hk => (h.ko.lt k hk).2), h.rk⟩

/-- Behind the second append and its store. -/
theorem Mk.second {W w1 : World} {N mb : Nat} {vw vk v' : Value} {ws rs K : List Int} {room : Nat} {lost : Bool} (h : Mk W N mb vw (.slice none 0 0) vk ws [] K room lost) (hrow : w1.ownsRow N 51 1 v' rs.length (wordsV rs)) (hg : W.grownBy w1 none)
    (hat : v'.ownBlock = none ∨ v'.ownBlock = some W.heap.size) : MBox w1 mb vw (.slice none 0 0) room vk lost ∧ Mk (w1.setCell ⟨mb, 1, none⟩ v') N mb vw v' vk ws rs K room lost := by
  have hbox : MBox w1 mb vw (.slice none 0 0) room vk lost := h.box.kept (hg.block _ h.box.lt (by simp))
  have new : ∀ {u : Value}, (∀ k, u.ownBlock = some k → k < W.heap.size) → ∀ k, v'.ownBlock = some k → u.ownBlock ≠ some k := by
    intro u h1 k hk e
    rcases hat with h | h
    · rw [h] at hk; cases hk
    · rw [h] at hk; injection hk with hk; have := h1 k e; omega
  have hg2 := grown_set w1 mb 1 v'
  have ne : v'.ownBlock ≠ some mb := fun e => by
    rcases hat with h1 | h1
    · rw [h1] at e; cases e
    · rw [h1] at e; injection e with e; have := h.box.lt; omega
  exact ⟨hbox, hbox.set1 v', h.lo, (grown_own h.wo hg).kept hg2 (or_ne h.aw), hrow.kept hg2 (or_ne ne), (grown_own h.ko hg).kept hg2 (or_ne h.ak), h.aw, ne, h.ak, fun k hk e => new (fun k hk => (h.wo.lt k hk).2) k e hk, h.wk, new (fun k hk => (h.ko.lt k hk).2)⟩

theorem keepT_grown {a W W' : World} (h : KeepT a W) (hg : W.grownBy W' none) : KeepT a W' := h.trans fun k cs t hk _ _ _ => by rw [hg.block k (Array.getElem?_eq_some_iff.1 hk).1 (by simp)]; exact hk

/-- A new marker. -/
theorem mk_start {w1 : World} {N kb room : Nat} (h : w1.ownsRow N 3 1 (.slice (some ⟨kb, 0, none⟩) 0 room) 0 []) (hN : N ≤ w1.heap.size) :
    Mk ((w1.alloc (.cells #[.slice none 0 0, .slice none 0 0, .int .i64 (room : Nat), .slice (some ⟨kb, 0, none⟩) 0 room, .bool false] 78)).alloc (.cells #[.pointer (some ⟨w1.heap.size, 0, none⟩)] 75)) N w1.heap.size (.slice none 0 0) (.slice none 0 0) (.slice (some ⟨kb, 0, none⟩) 0 room) [] [] [] room false := by
  have hk := (h.lt kb rfl).2
  refine ⟨⟨by simp [go_sem], by simp [go_sem], by simp [go_sem], by simp [go_sem], by simp [go_sem], fun j => ?_, ?_⟩, hN, World.ownsRow_nil _ _ _ _, World.ownsRow_nil _ _ _ _, (h.alloc _).alloc _, by simp [Value.ownBlock], by simp [Value.ownBlock], by simp [Value.ownBlock]; omega, by simp [Value.ownBlock], by simp [Value.ownBlock], by simp [Value.ownBlock]⟩
  · simp [go_sem]
  · refine ⟨#[.slice none 0 0, .slice none 0 0, .int .i64 (room : Nat), .slice (some ⟨kb, 0, none⟩) 0 room, .bool false], ?_⟩
    rw [Below.heap_alloc _ _ _ (by simp)]
    exact heap_alloc_new _ _

end Go.Proofs.Ytnbhciejlidnlaa

/- Walks: newMarker. -/
namespace Go.Proofs.Ytnbhciejlidnlaa
set_option linter.unusedSimpArgs false
set_option linter.unusedVariables false
open Go.RowKit Go.Shelf
attribute [local go_sem] field51_0 field51_1

def NmRes (N : Nat) (hs : List Int) (fs : List (List Int)) (rs : List Int) (room : Nat) (e : Ending) (W : World) : Prop :=
  ∃ mb vw vr, e = .returned (.pointer (some ⟨mb, 0, none⟩)) ∧ MkA W N mb vw vr hs fs rs room (fun _ => false) [] false

set_option maxRecDepth 100000 in
set_option maxHeartbeats 2000000 in
theorem newMarker_c (aw ar : Option Addr) (cw cr : Nat) (hs : List Int) (fs : List (List Int)) (rs : List Int) (room : Nat) (w : World) (hA : Arn hs fs rs) (hr1 : 1 ≤ room) (hroom : room ≤ 64)
    (hW : Wds w.heap.size w aw (joinW hs fs)) (hR : Wds w.heap.size w ar rs) :
    Calls Try.prog 40 #[.agg #[.slice aw (tot fs : Nat) cw, .slice ar rs.length cr], .int .i64 (room : Nat)] w fun e w' => NmRes w.heap.size hs fs rs room e w' ∧ Below w.heap.size w w' := by
  obtain ⟨i0, hi0, hz0, hz1, hz2⟩ := info_parts Try.info3
  have hF := hA.fit
  have h256 := hA.n256
  have h8 := hA.n8
  have hjl := joinW_len hs fs hF.len
  have HF := hide hF
  have Hjl := hide hjl
  obtain ⟨W0, hW0⟩ : ∃ W0, w.alloc (.cells #[.slice aw (tot fs : Nat) cw, .slice ar rs.length cr] 24) = W0 := ⟨_, rfl⟩
  have hb0 : Below w.heap.size w W0 := by rw [← hW0]; exact (Below.refl _ _).alloc (Nat.le_refl _) _
  have hs0 : w.heap.size < W0.heap.size := by rw [← hW0]; simp
  have hp0 : W0.heap[w.heap.size]? = some (.cells #[.slice aw (tot fs : Nat) cw, .slice ar rs.length cr] 24) := by rw [← hW0]; exact heap_alloc_new _ _
  have Hp0 := hide hp0
  have HW := hide (hW.below hb0)
  have HR := hide (hR.below hb0)
  clear hW hR hA hjl hF hp0
  go_enter Try.func40, Try.ntmps40
  go_upto_region 2 with (at_make; go_must (refine wpList_make_own _ rfl _ _ 32 rfl w.heap.size 3 i0 _ 1 Try.underlying32 hi0 hz0 hz1 .i64 .i64 _ room rfl rfl rfl (by rw [hz2]; omega) (by simp only [maxLen]; omega) (by omega) ?_); go_must (intro w1 hown hg1))
  have hs1 := hg1.size
  have hM2 := mk_start hown (N := w.heap.size) (by omega)
  obtain ⟨W2, hW2⟩ : ∃ W2, ((w1.alloc (.cells #[.slice none 0 0, .slice none 0 0, .int .i64 (room : Nat), .slice (some ⟨W0.heap.size, 0, none⟩) 0 room, .bool false] 78)).alloc (.cells #[.pointer (some ⟨w1.heap.size, 0, none⟩)] 75)) = W2 := ⟨_, rfl⟩
  rw [hW2] at hM2
  have hp2 : W2.heap[w1.heap.size + 1]? = some (.cells #[.pointer (some ⟨w1.heap.size, 0, none⟩)] 75) := by
    have := heap_alloc_new (w1.alloc (.cells #[.slice none 0 0, .slice none 0 0, .int .i64 (room : Nat), .slice (some ⟨W0.heap.size, 0, none⟩) 0 room, .bool false] 78)) (.cells #[.pointer (some ⟨w1.heap.size, 0, none⟩)] 75)
    rw [hW2] at this
    simpa using this
  have hb2 : Below W0.heap.size W0 W2 := by rw [← hW2]; exact ((((Below.refl _ W0).grown hg1 (Nat.le_refl _) (fun k e => by cases e)).alloc hs1 _).alloc (by simp; omega) _)
  have hs2 := hb2.size
  rw [hW2]
  have hmW : W0.heap.size ≤ w1.heap.size := hs1
  have hlp2 := (Array.getElem?_eq_some_iff.1 hp2).1
  clear hown hg1 hW2 hW0 hs1
  generalize w1.heap.size = mb at *
  have hcp := cell_of_box hp2
  have q0 := hM2.box.c0
  have z0 := hM2.box.fr 0
  have hlm := hM2.box.lt
  have c24 : ∀ (wx : World), Below W0.heap.size W0 wx → wx.cell? ⟨w.heap.size, 0, none⟩ = some (.slice aw (tot fs : Nat) cw) ∧ wx.cell? ⟨w.heap.size, 1, none⟩ = some (.slice ar rs.length cr) := fun wx hb => by
    have h := (hb.block w.heap.size hs0).trans (unhide Hp0)
    exact ⟨by rw [cell_of_row wx w.heap.size 0 _ 24 (0, 0) h]; rfl, by rw [cell_of_row wx w.heap.size 1 _ 24 (0, 0) h]; rfl⟩
  have a0 := (c24 W2 hb2).1
  have hla : w.heap.size < W2.heap.size := by omega
  have HM2 := hide hM2
  have Hp2 := hide hp2
  have HWd : Hid (∀ wx, Below W0.heap.size W0 wx → Wds wx.heap.size wx aw (joinW hs fs) ∧ Wds wx.heap.size wx ar rs) := fun wx hb => ⟨((unhide HW).below (hb.mono (by omega))).mono (by have := hb.size; omega), ((unhide HR).below (hb.mono (by omega))).mono (by have := hb.size; omega)⟩
  have Hc24 := hide c24
  clear hM2 hp2 c24
  go_cut [] from 11 to 22 (fun wx => ∃ vw, Hid (Mk wx w.heap.size mb vw (.slice none 0 0) (.slice (some ⟨W0.heap.size, 0, none⟩) 0 room) (joinW hs fs) [] [] room false) ∧ Hid (KeepT W2 wx) ∧ Below W0.heap.size W0 wx)
  case first =>
    go_region_law (refine step_append_words rfl _ _ rfl w.heap.size aw (joinW hs fs) cw rfl (by rw [unhide Hjl]; rfl) (unhide HWd _ hb2.drew).1 (by rw [unhide Hjl]; exact h256) (by show w.heap.size ≤ W2.heap.size; omega) ?_; intro v' w5 hrow hg5 hat; have hfst := ((unhide HM2).below ((Below.refl _ _).drew)).first hrow hg5 hat; have r0 := hfst.1.c0; have t0 := hfst.1.fr 0; have hlm5 := hfst.1.lt; have Hfst := hide hfst.2; have Hty := hide hfst.1.ty; have Hk5 := hide (keepT_grown (KeepT.below ((Below.refl _ W2).drew)) hg5); have hb5 := hb2.drew.grown hg5 hs2 (fun k e => by cases e); have c5 := cell_of_box ((unhide Hk5) (mb + 1) _ 75 (unhide Hp2) (by decide) (by decide) (by decide)); clear hfst; obtain ⟨va, vc, hv5⟩ := ownsRow_slice hrow; subst hv5)
    all_goals
      go_wp2_with fail
      go_meet
      case rel => exact ⟨_, Hfst, hide ((unhide Hk5).setCell (unhide Hty) (.inr (.inr rfl)) _), hb5.setCell (p := ⟨mb, 0, none⟩) (by show W0.heap.size ≤ mb; omega) _⟩
  case rest =>
  obtain ⟨vw, HM3, Hk3, hb3⟩ := hcut
  clear q0 z0 hcp hlm hla a0 HM2 hlp2
  have hs3 := hb3.size
  have Hp3 := hide ((unhide Hk3) (mb + 1) _ 75 (unhide Hp2) (by decide) (by decide) (by decide))
  have hcp := cell_of_box (unhide Hp3)
  have q1 := (unhide HM3).box.c1
  have z1 := (unhide HM3).box.fr 1
  have hlm := (unhide HM3).box.lt
  have a1 := (unhide Hc24 wc hb3).2
  have hla : w.heap.size < wc.heap.size := by omega
  have hlp : mb + 1 < wc.heap.size := (Array.getElem?_eq_some_iff.1 (unhide Hp3)).1
  clear hb2 hs2 Hp2 Hk3
  go_upto_region 3 with fail
  go_cut [] from 23 to 34 (fun wx => ∃ vr, Hid (Mk wx w.heap.size mb vw vr (.slice (some ⟨W0.heap.size, 0, none⟩) 0 room) (joinW hs fs) rs [] room false) ∧ Hid (wx.heap[mb + 1]? = some (.cells #[.pointer (some ⟨mb, 0, none⟩)] 75)) ∧ Below W0.heap.size W0 wx)
  case first =>
    go_region_law (refine step_append_words rfl _ _ rfl w.heap.size ar rs cr rfl rfl (unhide HWd _ hb3.drew).2 (by omega) (by show w.heap.size ≤ wc.heap.size; omega) ?_; intro v' w5 hrow hg5 hat; have hsnd := ((unhide HM3).below ((Below.refl _ _).drew)).second hrow hg5 hat; have r0 := hsnd.1.c1; have t0 := hsnd.1.fr 1; have hlm5 := hsnd.1.lt; have Hsnd := hide hsnd.2; have Hty := hide hsnd.1.ty; have Hk5 := hide (keepT_grown (KeepT.below ((Below.refl _ wc).drew)) hg5); have hb5 := hb3.drew.grown hg5 hs3 (fun k e => by cases e); have c5 := cell_of_box ((unhide Hk5) (mb + 1) _ 75 (unhide Hp3) (by decide) (by decide) (by decide)); clear hsnd; obtain ⟨va, vc, hv5⟩ := ownsRow_slice hrow; subst hv5)
    all_goals
      go_wp2_with fail
      go_meet
      case rel => exact ⟨_, Hsnd, hide (((unhide Hk5).setCell (unhide Hty) (.inr (.inr rfl)) _) (mb + 1) _ 75 (unhide Hp3) (by decide) (by decide) (by decide)), hb5.setCell (p := ⟨mb, 1, none⟩) (by show W0.heap.size ≤ mb; omega) _⟩
  case rest =>
  obtain ⟨vr, HM4, Hp4, hb4⟩ := hcut
  clear q1 z1 hcp hlm hla a1 HM3 Hp3 hs3 hb3 hlp Hc24 HWd
  have hcp := cell_of_box (unhide Hp4)
  have hlp : mb + 1 < wc.heap.size := (Array.getElem?_eq_some_iff.1 (unhide Hp4)).1
  have hlm := (unhide HM4).box.lt
  obtain ⟨a, cap, hvw⟩ := ownsRow_slice (unhide HM4).wo
  rw [unhide Hjl] at hvw
  subst hvw
  have q0 := (unhide HM4).box.c0
  have Hc := hide (nmEach w.heap.size mb (mb + 1) cap a vr _ hs fs rs room wc (unhide HF) h256 (unhide HM4) (unhide Hp4))
  have Hfin : Hid (fW hs fs fs.length = mW hs fs (fun _ => false)) := by
    show joinW _ _ = joinW _ _
    rw [mkF_all _ _ (by have := (unhide HF).len; omega)]
  have hbw : Below w.heap.size w wc := hb0.trans (hb4.mono (by omega))
  clear HM4 Hp4 hb0 hb4
  go_wp2_with fail
  refine (unhide Hc).mono ?_
  rintro e w6 ⟨he, hM6, hp6, hb6, hk6⟩
  subst he
  have hc6 := cell_of_box hp6
  have hl6 : mb + 1 < w6.heap.size := (Array.getElem?_eq_some_iff.1 hp6).1
  have HM6 := hide hM6
  clear hM6 hp6 hk6 Hc
  go_wp2
  go_ret
  have h9 := unhide HM6
  rw [unhide Hfin] at h9
  exact ⟨⟨mb, _, vr, rfl, ⟨_, h9⟩⟩, hbw.trans hb6⟩

end Go.Proofs.Ytnbhciejlidnlaa

/- Walks: Mark. -/
namespace Go.Proofs.Ytnbhciejlidnlaa
set_option linter.unusedSimpArgs false
set_option linter.unusedVariables false
open Go.RowKit Go.Shelf

/-- What Mark tells of an arena that may be, and a room that may be. -/
def MrkOk (ws rs : List Int) (e : Ending) (W : World) : Prop :=
  ∃ hs fs p a c a' c', Arn hs fs rs ∧ ws = joinW hs fs ∧ (∀ j, p j = true ↔ Rch fs rs j) ∧ e = .returned (.tuple #[.agg #[.slice a (mW hs fs p).length c, .slice a' rs.length c'], .int .i64 0]) ∧ Wds W.heap.size W a (mW hs fs p) ∧ (mW hs fs p).length ≤ c ∧ Wds W.heap.size W a' rs

/-- What Mark tells. -/
def MrkRes (ws rs : List Int) (room : Int) (e : Ending) (W : World) : Prop :=
  (arenaE ws rs ≠ 0 ∧ e = .returned (.tuple #[.agg #[.slice none 0 0, .slice none 0 0], .int .i64 (arenaE ws rs)])) ∨
  (arenaE ws rs = 0 ∧ (room < 1 ∨ 64 < room) ∧ e = .returned (.tuple #[.agg #[.slice none 0 0, .slice none 0 0], .int .i64 3])) ∨
  (arenaE ws rs = 0 ∧ 1 ≤ room ∧ room ≤ 64 ∧ MrkOk ws rs e W)

theorem row_wds {w : World} {N mb : Nat} {l : List Int} {v u : Value} {off : Nat} (h : w.ownsRow N 51 1 v l.length (wordsV l)) (hl : l.length ≤ 256) (hb : mb < N) : ∃ a c, v = .slice a l.length c ∧ Wds w.heap.size w a l ∧ l.length ≤ c ∧ Hid (∀ b o, a = some ⟨b, o, none⟩ → N ≤ b) := by
  obtain ⟨a, c, hv, hW, hn⟩ := words_of_owns h rfl (by omega)
  refine ⟨a, c, hv, hW, ?_, hn⟩
  rcases h.2 with ⟨_, h0⟩ | ⟨g, cap', cur, hv', h1, h2, h3, h4, h5, h6⟩
  · omega
  · rw [hv] at hv'; injection hv' with _ _ e; omega

theorem wds_set {B N : Nat} {w : World} {a : Option Addr} {l : List Int} (h : Wds B w a l) (hn : Hid (∀ b o, a = some ⟨b, o, none⟩ → N ≤ b)) {p : Addr} (hp : p.block < N) (u : Value) : Wds B (w.setCell p u) a l := by
  refine ⟨h.1, fun hne => ?_⟩
  obtain ⟨b, off, rfl, hB, hc⟩ := h.2 hne
  have := unhide hn b off rfl
  refine ⟨b, off, rfl, hB, fun k v hk => ?_⟩
  rw [World.cell?_of_block (a := ⟨b, off + k, none⟩) (Below.heap_setCell _ _ _ _ (by show b ≠ _; omega))]
  exact hc k v hk

set_option maxRecDepth 100000 in
set_option maxHeartbeats 2000000 in
theorem mark_c (aw ar : Option Addr) (cw cr : Nat) (ws rs : List Int) (room : Int) (B : Nat) (w : World) (hW : Wds B w aw ws) (hR : Wds B w ar rs) (hUW : U64 ws) (hUR : U64 rs) (hB : B ≤ w.heap.size) (hcap : ws.length ≤ cw) :
    Calls Try.prog 20 #[.agg #[.slice aw ws.length cw, .slice ar rs.length cr], .int .i64 room] w fun e w' => MrkRes ws rs room e w' ∧ Below w.heap.size w w' := by
  obtain ⟨W1, hW1⟩ : ∃ W1, (w.alloc (.cells #[.slice aw ws.length cw, .slice ar rs.length cr] 24)).alloc (.cells #[.slice none 0 0, .slice none 0 0] 24) = W1 := ⟨_, rfl⟩
  have hb1 : Below w.heap.size w W1 := by rw [← hW1]; exact ((Below.refl w.heap.size w).alloc (Nat.le_refl _) _).alloc (by simp) _
  have hs1 : w.heap.size + 1 < W1.heap.size := by rw [← hW1]; simp
  have g0 : W1.cell? ⟨w.heap.size, 0, none⟩ = some (.slice aw ws.length cw) := by rw [← hW1]; simp [go_sem]
  have g1 : W1.cell? ⟨w.heap.size, 1, none⟩ = some (.slice ar rs.length cr) := by rw [← hW1]; simp [go_sem]
  have r0 : W1.cell? ⟨w.heap.size + 1, 0, none⟩ = some (.slice none 0 0) := by rw [← hW1]; simp [go_sem]
  have r1 : W1.cell? ⟨w.heap.size + 1, 1, none⟩ = some (.slice none 0 0) := by rw [← hW1]; simp [go_sem]
  have z0 : W1.frozen? ⟨w.heap.size + 1, 0, none⟩ = false := by rw [← hW1]; simp [go_sem]
  have z1 : W1.frozen? ⟨w.heap.size + 1, 1, none⟩ = false := by rw [← hW1]; simp [go_sem]
  have Hc1 := hide (acheck_c aw ar cw cr ws rs B W1 (hW.below (hb1.mono hB)) (hR.below (hb1.mono hB)) hUW hUR (by omega) hcap)
  go_enter Try.func20, Try.ntmps20
  go_wp2_with fail
  refine (unhide Hc1).mono ?_
  rintro e w2 ⟨rfl, hb2⟩
  clear hW1 Hc1
  have hs2 := hb2.size
  have hbw2 : Below w.heap.size w w2 := hb1.trans (hb2.mono (by omega))
  replace g0 := (hb2.cell (p := ⟨w.heap.size, 0, none⟩) (by simp; omega)).trans g0
  replace g1 := (hb2.cell (p := ⟨w.heap.size, 1, none⟩) (by simp; omega)).trans g1
  replace r0 := (hb2.cell (p := ⟨w.heap.size + 1, 0, none⟩) hs1).trans r0
  replace r1 := (hb2.cell (p := ⟨w.heap.size + 1, 1, none⟩) hs1).trans r1
  replace z0 := (hb2.frozen (p := ⟨w.heap.size + 1, 0, none⟩) hs1).trans z0
  replace z1 := (hb2.frozen (p := ⟨w.heap.size + 1, 1, none⟩) hs1).trans z1
  have hl2 : w.heap.size + 1 < w2.heap.size := by omega
  have hl2' : w.heap.size < w2.heap.size := by omega
  clear hb1 hb2
  by_cases hE : arenaE ws rs = 0
  · by_cases hr : room < 1 ∨ 64 < room
    · have HE := hide hE
      have Hr := hide hr
      rw [hE]
      have hfin : Hid (∀ W, Below w.heap.size w W → MrkRes ws rs room (.returned (.tuple #[.agg #[.slice none 0 0, .slice none 0 0], .int .i64 3])) W ∧ Below w.heap.size w W) := fun W h => ⟨.inr (.inl ⟨unhide HE, unhide Hr, rfl⟩), h⟩
      clear hE
      rcases hr with hr | hr
      · have d1 : decide (room < 1) = true := by simpa using hr
        go_wp2
        refine bodyPost_ret (v := .tuple #[.agg #[.slice none 0 0, .slice none 0 0], .int .i64 3]) (by simp [results, Try.results20, go_sem, r0, r1]) rfl (unhide hfin _ ((hbw2.setCell (p := ⟨w.heap.size + 1, 0, none⟩) (by simp) _).setCell (p := ⟨w.heap.size + 1, 1, none⟩) (by simp) _))
      · have d1 : decide (room < 1) = false := by simp; omega
        have d2 : decide (room > 64) = true := by simp; omega
        have d3 : decide (64 < room) = true := by simp; omega
        go_wp2
        refine bodyPost_ret (v := .tuple #[.agg #[.slice none 0 0, .slice none 0 0], .int .i64 3]) (by simp [results, Try.results20, go_sem, r0, r1]) rfl (unhide hfin _ ((hbw2.setCell (p := ⟨w.heap.size + 1, 0, none⟩) (by simp) _).setCell (p := ⟨w.heap.size + 1, 1, none⟩) (by simp) _))
    · obtain ⟨rN, rfl⟩ := Int.eq_ofNat_of_zero_le (show 0 ≤ room by omega)
      have hr1 : 1 ≤ rN := by omega
      have hr2 : rN ≤ 64 := by omega
      obtain ⟨hs, fs, hA, hws⟩ := arn_of hUW hUR hE
      have hjl : tot fs = ws.length := by rw [hws, joinW_len _ _ hA.fit.len]
      have HA := hide hA
      have Hws := hide hws
      have HE := hide hE
      rw [hE]
      have Hc2 : Hid (Calls Try.prog 40 #[.agg #[.slice aw ws.length cw, .slice ar rs.length cr], .int .i64 (rN : Nat)] w2 fun e w' => NmRes w2.heap.size hs fs rs rN e w' ∧ Below w2.heap.size w2 w') := by
        have := newMarker_c aw ar cw cr hs fs rs rN w2 hA hr1 hr2 (by rw [← hws]; exact (hW.below (hbw2.mono hB)).mono (by omega)) ((hR.below (hbw2.mono hB)).mono (by omega))
        rw [hjl] at this
        exact this
      have d1 : decide ((rN : Int) < 1) = false := by simp; omega
      have d2 : decide ((rN : Int) > 64) = false := by simp; omega
      have d3 : decide (64 < (rN : Int)) = false := by simp; omega
      clear hE hr hA hws hjl
      go_wp2_with fail
      refine (unhide Hc2).mono ?_
      rintro e w3 ⟨⟨mb, vw, vr, he, hM3⟩, hb3⟩
      subst he
      have Hc3 := hide (markAll_c hs fs rs w2.heap.size mb vw vr rN w3 hM3 (unhide HA) hr1 hr2)
      clear hM3 Hc2
      go_wp2_with fail
      refine (unhide Hc3).mono ?_
      rintro e w4 ⟨⟨he, p, ⟨vk, hM4⟩, hp4⟩, hb4, _⟩
      subst he
      have hs3 := hb3.size
      have hs4 := hb4.size
      have hb34 : Below w2.heap.size w2 w4 := hb3.trans hb4
      have hbw4 : Below w.heap.size w w4 := hbw2.trans (hb34.mono (by omega))
      replace r0 := (hb34.cell (p := ⟨w.heap.size + 1, 0, none⟩) hl2).trans r0
      replace r1 := (hb34.cell (p := ⟨w.heap.size + 1, 1, none⟩) hl2).trans r1
      replace z0 := (hb34.frozen (p := ⟨w.heap.size + 1, 0, none⟩) hl2).trans z0
      replace z1 := (hb34.frozen (p := ⟨w.heap.size + 1, 1, none⟩) hl2).trans z1
      have hml := mW_len (unhide HA).fit p
      obtain ⟨wa, wc, hvw, hWw, hwc, hwn⟩ := row_wds (mb := 0) (u := .bool true) (off := 0) hM4.wo (by rw [hml]; exact (unhide HA).n256) (by omega)
      obtain ⟨ra, rc, hvr, hWr, _, hrn⟩ := row_wds (mb := 0) (u := .bool true) (off := 0) hM4.ro (by have := (unhide HA).n8; omega) (by omega)
      subst hvw hvr
      have q0 := hM4.box.c0
      have q1 := hM4.box.c1
      have hlm := hM4.box.lt
      have hl4 : w.heap.size + 1 < w4.heap.size := by omega
      have hmb : w2.heap.size ≤ mb := hM4.lo
      have Hfin : Hid (∀ W, W = (w4.setCell ⟨w.heap.size + 1, 0, none⟩ (.slice wa (mW hs fs p).length wc)).setCell ⟨w.heap.size + 1, 1, none⟩ (.slice ra rs.length rc) → MrkRes ws rs (rN : Int) (.returned (.tuple #[.agg #[.slice wa (mW hs fs p).length wc, .slice ra rs.length rc], .int .i64 0])) W ∧ Below w.heap.size w W) := fun W h => by
        subst h
        have hsz : ((w4.setCell ⟨w.heap.size + 1, 0, none⟩ (.slice wa (mW hs fs p).length wc)).setCell ⟨w.heap.size + 1, 1, none⟩ (.slice ra rs.length rc)).heap.size = w4.heap.size := by simp [World.setCell]
        refine ⟨.inr (.inr ⟨unhide HE, by omega, by omega, hs, fs, p, wa, wc, ra, rc, unhide HA, unhide Hws, hp4, rfl, ?_, hwc, ?_⟩), (hbw4.setCell (p := ⟨w.heap.size + 1, 0, none⟩) (by simp) _).setCell (p := ⟨w.heap.size + 1, 1, none⟩) (by simp) _⟩
        · rw [hsz]; exact wds_set (wds_set hWw hwn (by show w.heap.size + 1 < _; omega) _) hwn (by show w.heap.size + 1 < _; omega) _
        · rw [hsz]; exact wds_set (wds_set hWr hrn (by show w.heap.size + 1 < _; omega) _) hrn (by show w.heap.size + 1 < _; omega) _
      clear hM4 hp4 hml hWw hWr hwn hrn Hc3 hb3 hb4 hb34 hwc
      generalize (mW hs fs p).length = n at *
      go_wp2
      exact bodyPost_ret (v := .tuple #[.agg #[.slice wa n wc, .slice ra rs.length rc], .int .i64 0]) (by simp [results, Try.results20, go_sem, r0, r1]) rfl (unhide Hfin _ rfl)
  · have HE := hide hE
    have hfin : Hid (∀ W, Below w.heap.size w W → MrkRes ws rs room (.returned (.tuple #[.agg #[.slice none 0 0, .slice none 0 0], .int .i64 (arenaE ws rs)])) W ∧ Below w.heap.size w W) := fun W h => ⟨.inl ⟨unhide HE, rfl⟩, h⟩
    generalize arenaE ws rs = E at *
    have d0 : (E != 0) = true := by simpa using hE
    clear hE
    go_wp2
    refine bodyPost_ret (v := .tuple #[.agg #[.slice none 0 0, .slice none 0 0], .int .i64 E]) (by simp [results, Try.results20, go_sem, r0, r1]) rfl (unhide hfin _ ((hbw2.setCell (p := ⟨w.heap.size + 1, 0, none⟩) (by simp) _).setCell (p := ⟨w.heap.size + 1, 1, none⟩) (by simp) _))

end Go.Proofs.Ytnbhciejlidnlaa

/- Walks: Slide. -/
namespace Go.Proofs.Ytnbhciejlidnlaa
set_option linter.unusedSimpArgs false
set_option linter.unusedVariables false
open Go.RowKit Go.Shelf

/-- The words of the arena that was moved down. -/
def slL (hs : List Int) (fs : List (List Int)) (rs : List Int) : List Int := joinW (sH hs (rL fs rs)) (sF fs (rL fs rs))
def slR (fs : List (List Int)) (rs : List Int) : List Int := sR fs (rL fs rs) rs

/-- What Slide tells. -/
def SdRes (base : Nat) (ws rs : List Int) (e : Ending) (W : World) : Prop :=
  (arenaE ws rs ≠ 0 ∧ e = .returned (.tuple #[.agg #[.slice none 0 0, .slice none 0 0], .int .i64 (arenaE ws rs)])) ∨
  (arenaE ws rs = 0 ∧ ∃ hs fs a c a' c', Arn hs fs rs ∧ ws = joinW hs fs ∧ e = .returned (.tuple #[.agg #[.slice a (slL hs fs rs).length c, .slice a' rs.length c'], .int .i64 0]) ∧ WdsF base W a (slL hs fs rs) ∧ (slL hs fs rs).length ≤ c ∧ WdsF base W a' (slR fs rs))

theorem slI_keep {w5 W W' : World} {db : Nat} {vo vm vm' : Value} {hs : List Int} {fs : List (List Int)} {L O : List Int} (h : SlI w5 db vo hs fs L O W vm) (hk : KpS W W' db vm vm') : Keep51 W W' := by
  intro b cs hb
  have hl := (Array.getElem?_eq_some_iff.1 hb).1
  obtain ⟨cs', hc⟩ := h.ty
  have h1 : b ≠ db := fun e => by
    subst e
    rw [hb] at hc
    injection hc with hc
    injection hc with _ hc
    exact absurd hc (by decide)
  have h2 : vm.ownBlock ≠ some b := fun e => by
    obtain ⟨ra, rc, hv⟩ := ownsRow_slice h.row
    subst hv
    rcases h.row.2 with ⟨h0, _⟩ | ⟨g, cap, cur, hv, _, hg, _⟩
    · rw [h0] at e; simp [Value.ownBlock] at e
    · rw [hv] at e
      have e' : g = b := by simpa [Value.ownBlock] using e
      subst e'
      rw [hb] at hg
      injection hg with hg
      injection hg with _ hg
      exact absurd hg (by decide)
  rw [(hk.2 b hl h1 h2).1]
  exact hb

theorem laid_nil (hs : List Int) (fs : List (List Int)) (L : List Int) : laid hs fs L [] = [] := by simp [laid, joinW]

/-- All objects are gone through. -/
theorem slide_each (hs : List Int) (fs : List (List Int)) (rs : List Int) (p : Nat → Bool) (w5 : World) (kb db pb mb N cw : Nat) (a : Option Addr) (vo : Value) (hA : Arn hs fs rs) (hp : ∀ j, p j = true ↔ Rch fs rs j)
    (hkb : w5.cell? ⟨kb, 0, none⟩ = some (.slice a (tot fs : Nat) cw)) (hW : Wds db w5 a (mW hs fs p)) (hcap : tot fs ≤ cw) (hpb : w5.cell? ⟨pb, 0, none⟩ = some (.map (some mb))) (hM : NowM w5 N mb fs (rL fs rs))
    (hkd : kb ≠ db) (hpd : pb ≠ db) (hmd : mb ≠ db) (h : SlI w5 db vo hs fs (rL fs rs) [] w5 (.slice none 0 0)) :
    Calls Try.prog 23 #[.slice a (tot fs : Nat) cw, .func (.func 24) #[] #[.pointer (some ⟨kb, 0, none⟩), .pointer (some ⟨db, 0, none⟩), .pointer (some ⟨pb, 0, none⟩)]] w5 fun e w' => e = .returned (.tuple #[]) ∧ ∃ vm, SlI w5 db vo hs fs (rL fs rs) (rL fs rs) w' vm := by
  have hL := (whole_rL hA).ok
  have hdl := h.lt
  have hc := em24_c (.pointer (some ⟨kb, 0, none⟩)) (.pointer (some ⟨db, 0, none⟩)) (.pointer (some ⟨pb, 0, none⟩)) a cw fs (fun k W => ∃ vm, SlI w5 db vo hs fs (rL fs rs) (mL p k) W vm) w5 hA.n256 ⟨_, h⟩ (fun k hk W hI => by
    obtain ⟨vm, hI⟩ := hI
    obtain ⟨wb, off, x, rfl, hwb, hc, h1, h2, h3, h4, h5, y, hy, hxy⟩ := mW_at hA.fit p hk hW
    have hwl : wb < w5.heap.size := by omega
    refine ⟨wb, off, x, rfl, gb_cell hI.g hwl (by omega) _ hc, h1, h2, h3, h4, fun hm W' hb' => ?_, fun hm W' hb' => ?_⟩
    · have e : mL p (k + 1) = mL p k := mL_no (by rw [← h5]; exact hm)
      exact ⟨vm, by rw [e]; exact hI.below hb'⟩
    · have hpk : p k = true := by rw [← h5]; exact hm
      have hI' := hI.below hb'
      obtain ⟨y', hy', e1, e2, e3⟩ := rO_at hA.fit hk
      have hyy : y' = y := by rw [hy] at hy'; injection hy' with hy'; exact hy'.symm
      subst hyy
      refine (sl1_c w5 kb db pb mb N wb off cw k vo vm hs fs rs (rL fs rs) p (uhA x) W' hA hkb (hW.mono (by omega)) hcap hpb hM hkd hpd hmd (by omega) hL hk (fun j hj => ?_) (mL_ok p fs (by omega)) ?_ hpk hI').mono ?_
      · exact (mem_reachK hA j).2 (rch_step ((hp k).1 hpk) (List.getElem?_eq_getElem hk) hj)
      · rw [e1, hxy, (reh_ok (p k) y').2.2.2.1]
        unfold reh
        rw [uhL_wlen e2, e3]
      · rintro e W2 ⟨he, vm', h6, h7⟩
        exact ⟨he, ⟨vm', h6⟩, slI_keep hI' h7, h7.1⟩)
  refine hc.mono ?_
  rintro e w' ⟨he, vm, hI⟩
  rw [mL_rL hA hp] at hI
  exact ⟨he, vm, hI⟩

end Go.Proofs.Ytnbhciejlidnlaa

/- Walks: Slide. -/
namespace Go.Proofs.Ytnbhciejlidnlaa
set_option linter.unusedSimpArgs false
set_option linter.unusedVariables false
open Go.RowKit Go.Shelf

theorem slL_len {hs : List Int} {fs : List (List Int)} {rs : List Int} (h : Arn hs fs rs) : (slL hs fs rs).length = tot (sF fs (rL fs rs)) := by
  unfold slL
  rw [joinW_len _ _ (by rw [sH_len, sF_len])]

set_option maxRecDepth 100000 in
set_option maxHeartbeats 4000000 in
theorem slide_c (aw ar : Option Addr) (cw cr : Nat) (ws rs : List Int) (B : Nat) (w : World) (hW : Wds B w aw ws) (hR : Wds B w ar rs) (hUW : U64 ws) (hUR : U64 rs) (hB : B ≤ w.heap.size) (hcap : ws.length ≤ cw) :
    Calls Try.prog 7 #[.agg #[.slice aw ws.length cw, .slice ar rs.length cr]] w fun e w' => SdRes w.heap.size ws rs e w' ∧ Below w.heap.size w w' := by
  obtain ⟨W0, hW0⟩ : ∃ W0, (w.alloc (.cells #[.slice aw ws.length cw, .slice ar rs.length cr] 24)).alloc (.cells #[.slice none 0 0, .slice none 0 0] 24) = W0 := ⟨_, rfl⟩
  have hb0 : Below w.heap.size w W0 := by rw [← hW0]; exact ((Below.refl w.heap.size w).alloc (Nat.le_refl _) _).alloc (by simp) _
  have hs0 : w.heap.size + 1 < W0.heap.size := by rw [← hW0]; simp
  have g0 : W0.cell? ⟨w.heap.size, 0, none⟩ = some (.slice aw ws.length cw) := by rw [← hW0]; simp [go_sem]
  have g1 : W0.cell? ⟨w.heap.size, 1, none⟩ = some (.slice ar rs.length cr) := by rw [← hW0]; simp [go_sem]
  have r0 : W0.cell? ⟨w.heap.size + 1, 0, none⟩ = some (.slice none 0 0) := by rw [← hW0]; simp [go_sem]
  have r1 : W0.cell? ⟨w.heap.size + 1, 1, none⟩ = some (.slice none 0 0) := by rw [← hW0]; simp [go_sem]
  have z0 : W0.frozen? ⟨w.heap.size + 1, 0, none⟩ = false := by rw [← hW0]; simp [go_sem]
  have z1 : W0.frozen? ⟨w.heap.size + 1, 1, none⟩ = false := by rw [← hW0]; simp [go_sem]
  have Hc1 := hide (mark_c aw ar cw cr ws rs 64 B W0 (hW.below (hb0.mono hB)) (hR.below (hb0.mono hB)) hUW hUR (by omega) hcap)
  clear hW hR hUW hUR hcap
  go_enter Try.func7, Try.ntmps7
  go_wp2_with fail
  refine (unhide Hc1).mono ?_
  rintro e w1 ⟨hres, hb1⟩
  clear hW0 Hc1
  have hs1 := hb1.size
  replace g0 := (hb1.cell (p := ⟨w.heap.size, 0, none⟩) (by simp; omega)).trans g0
  replace g1 := (hb1.cell (p := ⟨w.heap.size, 1, none⟩) (by simp; omega)).trans g1
  replace r0 := (hb1.cell (p := ⟨w.heap.size + 1, 0, none⟩) hs0).trans r0
  replace r1 := (hb1.cell (p := ⟨w.heap.size + 1, 1, none⟩) hs0).trans r1
  replace z0 := (hb1.frozen (p := ⟨w.heap.size + 1, 0, none⟩) hs0).trans z0
  replace z1 := (hb1.frozen (p := ⟨w.heap.size + 1, 1, none⟩) hs0).trans z1
  have hbw1 : Below w.heap.size w w1 := hb0.trans (hb1.mono (by omega))
  have hl1 : w.heap.size + 1 < w1.heap.size := by omega
  have hl1' : w.heap.size < w1.heap.size := by omega
  clear hb0 hb1 hs0 hs1
  rcases hres with ⟨hE, he⟩ | ⟨_, hr, _⟩ | ⟨hE, _, _, hs, fs, p, a, c, a', c', hA, hws, hp, he, hWm, hcm, hRm⟩
  · subst he
    have HE := hide hE
    have dE : (arenaE ws rs != 0) = true := by simpa using hE
    clear hE
    generalize hEe : arenaE ws rs = E at *
    have HEe := hide hEe
    clear hEe
    have Hrd : Hid (∀ o, ((((w1.setCell ⟨w.heap.size + 1, 0, none⟩ (.slice none 0 0)).setCell ⟨w.heap.size + 1, 1, none⟩ (.slice none 0 0)).alloc o).cell? ⟨w.heap.size + 1, 0, none⟩ = some (.slice none 0 0)) ∧ ((((w1.setCell ⟨w.heap.size + 1, 0, none⟩ (.slice none 0 0)).setCell ⟨w.heap.size + 1, 1, none⟩ (.slice none 0 0)).alloc o).cell? ⟨w.heap.size + 1, 1, none⟩ = some (.slice none 0 0))) := fun o => by
      have hl : w.heap.size + 1 < ((w1.setCell ⟨w.heap.size + 1, 0, none⟩ (.slice none 0 0)).setCell ⟨w.heap.size + 1, 1, none⟩ (.slice none 0 0)).heap.size := by simp [World.setCell]; exact hl1
      have hb := (Below.refl ((w1.setCell ⟨w.heap.size + 1, 0, none⟩ (.slice none 0 0)).setCell ⟨w.heap.size + 1, 1, none⟩ (.slice none 0 0)).heap.size _).alloc (Nat.le_refl _) o
      refine ⟨(hb.cell (p := ⟨w.heap.size + 1, 0, none⟩) hl).trans (by simp [go_sem, r0, r1]), (hb.cell (p := ⟨w.heap.size + 1, 1, none⟩) hl).trans (by simp [go_sem, r0, r1])⟩
    go_wp2
    have h0 := (unhide Hrd (.cells #[.slice none 0 0, .slice none 0 0] 24)).1
    have h1 := (unhide Hrd (.cells #[.slice none 0 0, .slice none 0 0] 24)).2
    refine bodyPost_ret (v := .tuple #[.agg #[.slice none 0 0, .slice none 0 0], .int .i64 E]) (by simp [results, Try.results7, go_sem, h0, h1]) rfl ?_
    refine ⟨.inl ⟨by rw [unhide HEe]; exact unhide HE, by rw [unhide HEe]⟩, ?_⟩
    exact ((hbw1.setCell (p := ⟨w.heap.size + 1, 0, none⟩) (by simp) _).setCell (p := ⟨w.heap.size + 1, 1, none⟩) (by simp) _).alloc (by simp [World.setCell]; omega) _
  · exact absurd hr (by omega)
  · subst he
    have HE := hide hE
    have HA := hide hA
    have Hws := hide hws
    have Hp := hide hp
    have hml := mW_len hA.fit p
    rw [hml] at hcm ⊢
    have hn8 := hA.n8
    have h256 := hA.n256
    have Hst := hide hA
    -- the marked arena, and where its objects come to stand
    obtain ⟨W1, hW1⟩ : ∃ W1, w1.alloc (.cells #[.slice a (tot fs : Nat) c, .slice a' rs.length c'] 24) = W1 := ⟨_, rfl⟩
    have hb1 : Below w1.heap.size w1 W1 := by rw [← hW1]; exact (Below.refl _ _).alloc (Nat.le_refl _) _
    have hs1 : w1.heap.size < W1.heap.size := by rw [← hW1]; simp
    have k0 : W1.cell? ⟨w1.heap.size, 0, none⟩ = some (.slice a (tot fs : Nat) c) := by rw [← hW1]; simp [go_sem]
    have k1 : W1.cell? ⟨w1.heap.size, 1, none⟩ = some (.slice a' rs.length c') := by rw [← hW1]; simp [go_sem]
    have HWm := hide (hWm.below hb1)
    have HRm := hide (hRm.below hb1)
    have Hc2 := hide (places_c a c hs fs rs p W1 ((unhide HWm).mono (by omega)) hA)
    clear hWm hRm hE hA hws hp
    go_wp2_with fail
    refine (unhide Hc2).mono ?_
    rintro e w2 ⟨⟨mb, he, hM2⟩, hb2⟩
    subst he
    clear hW1 Hc2
    have hs2 := hb2.size
    have hM2' : NowM w2 W1.heap.size mb fs (rL fs rs) := by rw [← mL_rL (unhide HA) (unhide Hp)]; exact hM2
    clear hM2
    obtain ⟨W2, hW2⟩ : ∃ W2, w2.alloc (.cells #[.map (some mb)] 47) = W2 := ⟨_, rfl⟩
    have hb2' : Below w2.heap.size w2 W2 := by rw [← hW2]; exact (Below.refl _ _).alloc (Nat.le_refl _) _
    have hs2' : w2.heap.size < W2.heap.size := by rw [← hW2]; simp
    have p0 : W2.cell? ⟨w2.heap.size, 0, none⟩ = some (.map (some mb)) := by rw [← hW2]; simp [go_sem]
    have hb12 : Below W1.heap.size W1 W2 := hb2.trans (hb2'.mono hs2)
    replace k0 := (hb12.cell (p := ⟨w1.heap.size, 0, none⟩) hs1).trans k0
    replace k1 := (hb12.cell (p := ⟨w1.heap.size, 1, none⟩) hs1).trans k1
    have hkl2 : w1.heap.size < W2.heap.size := by omega
    have HM2 := hide (hM2'.below hb2')
    have hok : ∀ x ∈ rs, okW (stF 0 fs) x = true := (unhide HA).okr
    have Hc3 := hide (sturn_c a' c' rs fs (rL fs rs) W1.heap.size mb w1.heap.size W2 ((unhide HRm).below (hb12.mono (by omega))) (by omega) (unhide HA).ur hok (whole_rL (unhide HA)).ok (fun j hj => (mem_reachK (unhide HA) j).2 (rch_root hj)) (unhide HM2) h256 (by omega))
    have hb1W2 : Below w1.heap.size w1 W2 := hb1.trans (hb12.mono (by omega))
    have HWm2 := hide ((unhide HWm).below (hb12.mono (by omega)))
    clear HWm HRm hM2' hb2 hb2' hok
    go_wp2_with fail
    refine (unhide Hc3).mono ?_
    rintro e w3 ⟨⟨he, hF3⟩, hb3⟩
    subst he
    clear hW2 Hc3
    have hs3 := hb3.size
    have hrb3 : ∀ hne : rs ≠ [], W2.heap.size < w3.heap.size := fun hne => by
      obtain ⟨b, o, e, hb, _⟩ := hF3.1.2 (by simpa [slR] using hne)
      injection e with e
      injection e with e
      omega
    obtain ⟨W3, hW3⟩ : ∃ W3, w3.alloc (.cells #[.slice none 0 0, .slice (some ⟨W2.heap.size, 0, none⟩) rs.length rs.length] 24) = W3 := ⟨_, rfl⟩
    have hb3' : Below w3.heap.size w3 W3 := by rw [← hW3]; exact (Below.refl _ _).alloc (Nat.le_refl _) _
    have hs3' : w3.heap.size < W3.heap.size := by rw [← hW3]; simp
    have hb23 : Below W2.heap.size W2 W3 := hb3.trans (hb3'.mono hs3)
    replace k0 := (hb23.cell (p := ⟨w1.heap.size, 0, none⟩) hkl2).trans k0
    replace p0 := (hb23.cell (p := ⟨w2.heap.size, 0, none⟩) hs2').trans p0
    have hI : SlI W3 w3.heap.size (.slice (some ⟨W2.heap.size, 0, none⟩) rs.length rs.length) hs fs (rL fs rs) [] W3 (.slice none 0 0) := by
      refine ⟨⟨rfl, rfl, rfl, Nat.le_refl _, fun _ _ _ => rfl⟩, by rw [← hW3]; simp [go_sem], by rw [← hW3]; simp [go_sem], fun j => by rw [← hW3]; simp [go_sem], by rw [laid_nil]; exact World.ownsRow_nil _ _ _ _, ?_, hs3'⟩
      have h := heap_alloc_new w3 (.cells #[.slice none 0 0, .slice (some ⟨W2.heap.size, 0, none⟩) rs.length rs.length] 24)
      rw [hW3] at h
      exact ⟨_, h⟩
    have hml2 : mb < W2.heap.size := (unhide HM2).lt
    have Hc4 := hide (slide_each hs fs rs p W3 w1.heap.size w3.heap.size w2.heap.size mb W1.heap.size c a (.slice (some ⟨W2.heap.size, 0, none⟩) rs.length rs.length) (unhide HA) (unhide Hp) k0 (((unhide HWm2).below (hb23.mono (by omega))).mono (by omega)) hcm p0 ((unhide HM2).below hb23) (by omega) (by omega) (by omega) hI)
    have HF3 := hide (hF3.below hb3')
    have hb1W3 : Below w1.heap.size w1 W3 := hb1W2.trans (hb23.mono (by omega))
    have hkl3 : w1.heap.size < W3.heap.size := by omega
    clear hI hF3 hb3 hb3' hb23 HM2 HWm2
    go_wp2_with fail
    refine (unhide Hc4).mono ?_
    rintro e w4 ⟨he, vm, hI4⟩
    subst he
    clear hW3 Hc4
    have hg4 := hI4.g
    have hs4 := hg4.size
    have hrow := hI4.row
    have hlen : (laid hs fs (rL fs rs) (rL fs rs)).length ≤ 256 := by rw [laid_len, ← sF_tot]; exact sF_256 (unhide HA) (whole_rL (unhide HA))
    obtain ⟨a3, c3, hv3, hF4, hcl4⟩ := wordsF_of_owns hrow rfl (by omega)
    subst hv3
    have d0 := hI4.d0
    have d1 := hI4.d1
    have hdl : w3.heap.size < w4.heap.size := by omega
    have hbw4 : Below w.heap.size w w4 := by
      refine ⟨hg4.os.trans (hb1W3.os.trans hbw1.os), hg4.tape.trans (hb1W3.tape.trans hbw1.tape), hg4.output.trans (hb1W3.output.trans hbw1.output), by have := hbw1.size; omega, fun k hk => ?_⟩
      exact (hg4.block k (by omega) (fun e => by injection e with e; omega)).trans ((hb1W3.block k (by omega)).trans (hbw1.block k hk))
    have hrb4 := (hg4.block (w.heap.size + 1) (by omega) (fun e => by injection e with e; omega)).trans (hb1W3.block (w.heap.size + 1) (by omega))
    replace r0 := (World.cell?_of_block (a := ⟨w.heap.size + 1, 0, none⟩) hrb4).trans r0
    replace r1 := (World.cell?_of_block (a := ⟨w.heap.size + 1, 1, none⟩) hrb4).trans r1
    replace z0 := (World.frozen?_of_block (a := ⟨w.heap.size + 1, 0, none⟩) hrb4).trans z0
    replace z1 := (World.frozen?_of_block (a := ⟨w.heap.size + 1, 1, none⟩) hrb4).trans z1
    have hl4 : w.heap.size + 1 < w4.heap.size := by omega
    have HR4 : Hid (WdsF W2.heap.size w4 (some ⟨W2.heap.size, 0, none⟩) (slR fs rs)) := by
      by_cases hne : rs = []
      · have e : slR fs rs = [] := by rw [hne]; rfl
        rw [e]
        exact ⟨⟨by simp, fun h => absurd rfl h⟩, fun b off h => (unhide HF3).2 b off h⟩
      · have := hrb3 hne
        exact ⟨wds_gb (unhide HF3).1 hg4 (by omega), (unhide HF3).2⟩
    have HF4 : Hid (WdsF W3.heap.size w4 a3 (slL hs fs rs)) := hF4
    have Hcl : Hid ((slL hs fs rs).length ≤ c3) := hcl4
    have HbF := hide hbw4
    have hlL : (laid hs fs (rL fs rs) (rL fs rs)).length = (slL hs fs rs).length := rfl
    rw [hlL] at d0 hlen
    have hN1 : w.heap.size + 1 < W2.heap.size := by omega
    have hN3 : w.heap.size + 1 < W3.heap.size := by omega
    clear hI4 hrow hF4 hcl4 hg4 hbw4 hrb4 hb1W2 hb1W3 hb12 hb1 hlL
    generalize hmle : (slL hs fs rs).length = ml at *
    have Hml := hide hmle
    clear hmle
    go_wp2
    refine bodyPost_ret (v := .tuple #[.agg #[.slice a3 ml c3, .slice (some ⟨W2.heap.size, 0, none⟩) rs.length rs.length], .int .i64 0]) (by simp [results, Try.results7, go_sem, r0, r1]) rfl ?_
    have hF3 := (((unhide HF4).setCell (p := ⟨w.heap.size + 1, 0, none⟩) hN3 (.slice a3 ml c3)).setCell (p := ⟨w.heap.size + 1, 1, none⟩) hN3 (.slice (some ⟨W2.heap.size, 0, none⟩) rs.length rs.length)).base (base' := w.heap.size) (by omega)
    have hF4 := (((unhide HR4).setCell (p := ⟨w.heap.size + 1, 0, none⟩) hN1 (.slice a3 ml c3)).setCell (p := ⟨w.heap.size + 1, 1, none⟩) hN1 (.slice (some ⟨W2.heap.size, 0, none⟩) rs.length rs.length)).base (base' := w.heap.size) (by omega)
    refine ⟨.inr ⟨unhide HE, hs, fs, a3, c3, _, _, unhide HA, unhide Hws, by rw [unhide Hml], hF3, by rw [unhide Hml]; exact unhide Hcl, hF4⟩, ?_⟩
    exact ((unhide HbF).setCell (p := ⟨w.heap.size + 1, 0, none⟩) (by simp) _).setCell (p := ⟨w.heap.size + 1, 1, none⟩) (by simp) _

end Go.Proofs.Ytnbhciejlidnlaa

/- Plain: what was moved down, moved down again, or moved. -/
namespace Go.Proofs.Ytnbhciejlidnlaa
set_option linter.unusedSimpArgs false
set_option linter.unusedVariables false
open Go.RowKit

/-- All the numbers below n. -/
def allN (n : Nat) : List Int := (List.range n).map fun (i : Nat) => (i : Int)

theorem allN_len (n : Nat) : (allN n).length = n := by simp [allN]
theorem allN_get {n k : Nat} (h : k < n) : (allN n)[k]? = some (k : Int) := by simp [allN, h]
theorem allN_mem {n : Nat} {x : Int} (h : x ∈ allN n) : 0 ≤ x ∧ x < n := by
  unfold allN at h
  obtain ⟨j, hj, rfl⟩ := List.mem_map.1 h
  have := List.mem_range.1 hj
  omega
theorem allN_nodup (n : Nat) : (allN n).Nodup := by
  unfold allN List.Nodup
  rw [List.pairwise_map]
  exact List.nodup_range.imp (fun h e => h (by omega))
theorem allN_place {n k : Nat} (h : k < n) : placeOf (allN n) (k : Int) = (k : Int) := placeOf_nodup (allN_nodup n) (allN_get h)

theorem allN_fields (fs : List (List Int)) : (allN fs.length).map (fO fs) = fs := by
  apply List.ext_getElem?
  intro k
  rw [List.getElem?_map]
  by_cases h : k < fs.length
  · rw [allN_get h, Option.map_some, fO_at h, List.getElem?_eq_getElem h]
  · rw [List.getElem?_eq_none (by rw [allN_len]; omega), List.getElem?_eq_none (by omega)]
    rfl

theorem allN_twW {hs : List Int} {fs : List (List Int)} {x : Int} (h1 : 0 ≤ x) (h2 : x < 18446744073709551616) (hok : okW (stF 0 fs) x = true) : twW fs (allN fs.length) x = x := by
  obtain ⟨e, hr, _⟩ := word_back (stF_nodup fs 0) h1 h2 hok
  unfold twW
  rw [allN_fields]
  have : renV (allN fs.length) (valW (stF 0 fs) x) = valW (stF 0 fs) x := by
    unfold renV
    split
    · rename_i h
      have hb := hr h
      rw [stF_len] at hb
      obtain ⟨j, hj⟩ := Int.eq_ofNat_of_zero_le hb.1
      have e2 : placeOf (allN fs.length) (valW (stF 0 fs) x).2 = (valW (stF 0 fs) x).2 := by rw [hj]; exact allN_place (by omega)
      rw [e2]
      exact Prod.ext h.symm rfl
    · rfl
  rw [this, e]

section
variable {hs : List Int} {fs : List (List Int)} {rs : List Int}

/-- All that was moved down can be come to. -/
theorem rL_all (h : Arn hs fs rs) (hall : ∀ k, k < fs.length → (k : Int) ∈ rL fs rs) : rL fs rs = allN fs.length := by
  unfold rL reachK allN
  rw [readG_len]
  congr 1
  rw [List.filter_eq_self]
  intro k hk
  have hk' := List.mem_range.1 hk
  have hm := hall k hk'
  unfold rL reachK at hm
  obtain ⟨j, hj, e⟩ := List.mem_map.1 hm
  have : j = k := by omega
  subst this
  exact (List.mem_filter.1 hj).2

theorem slid_order (h : Arn hs fs rs) : orderOf (readG (sF fs (rL fs rs)) (slR fs rs)) = (orderOf (readG fs rs)).map (placeOf (rL fs rs)) := by
  have e : readG (sF fs (rL fs rs)) (slR fs rs) = renL (readG fs rs) (rL fs rs) := read_slid h (whole_rL h)
  rw [e]
  exact (order_ren (good_read h) (whole_rL h)).1

theorem slid_all (h : Arn hs fs rs) : rL (sF fs (rL fs rs)) (slR fs rs) = allN (rL fs rs).length := by
  have hA' := arn_slid h (whole_rL h)
  have e := rL_all hA' (fun k hk => by
    rw [sF_len] at hk
    refine (mem_rL hA' _).2 ?_
    show (k : Int) ∈ orderOf (readG (sF fs (rL fs rs)) (slR fs rs))
    rw [slid_order h]
    refine List.mem_map.2 ⟨(rL fs rs)[k], (mem_rL h _).1 (List.getElem_mem hk), ?_⟩
    exact placeOf_nodup (whole_rL h).nd (List.getElem?_eq_getElem hk))
  rw [sF_len] at e
  exact e

/-- What was moved down again stays. -/
theorem slid_again (h : Arn hs fs rs) : slL (sH hs (rL fs rs)) (sF fs (rL fs rs)) (slR fs rs) = slL hs fs rs ∧ slR (sF fs (rL fs rs)) (slR fs rs) = slR fs rs := by
  have hA' : Arn (sH hs (rL fs rs)) (sF fs (rL fs rs)) (slR fs rs) := arn_slid h (whole_rL h)
  have hall := slid_all h
  have hl : (sF fs (rL fs rs)).length = (rL fs rs).length := sF_len _ _
  have hw : ∀ x, 0 ≤ x → x < 18446744073709551616 → okW (stF 0 (sF fs (rL fs rs))) x = true → twW (sF fs (rL fs rs)) (allN (rL fs rs).length) x = x := fun x h1 h2 h3 => by
    rw [← hl]
    exact allN_twW (hs := []) h1 h2 h3
  have eH : sH (sH hs (rL fs rs)) (allN (rL fs rs).length) = sH hs (rL fs rs) := by
    apply List.ext_getElem?
    intro k
    unfold sH
    rw [List.getElem?_map, List.getElem?_map]
    by_cases hk : k < (rL fs rs).length
    · rw [allN_get hk, List.getElem?_eq_getElem hk]
      simp only [Option.map_some]
      congr 1
      unfold rO
      rw [Int.toNat_natCast, List.getD_eq_getElem?_getD, List.getElem?_map, List.getElem?_eq_getElem hk]
      simp only [Option.map_some, Option.getD_some]
      rw [reh_reh]
    · rw [List.getElem?_eq_none (by rw [allN_len]; omega), List.getElem?_eq_none (by omega)]
      rfl
  have eF : sF (sF fs (rL fs rs)) (allN (rL fs rs).length) = sF fs (rL fs rs) := by
    have e1 := allN_fields (sF fs (rL fs rs))
    rw [hl] at e1
    have e2 : sF (sF fs (rL fs rs)) (allN (rL fs rs).length) = ((allN (rL fs rs).length).map (fO (sF fs (rL fs rs)))).map (fun f => f.map (twW (sF fs (rL fs rs)) (allN (rL fs rs).length))) := by
      rw [List.map_map]
      rfl
    rw [e2, e1]
    conv => rhs; rw [← List.map_id (sF fs (rL fs rs))]
    apply List.map_congr_left
    intro f hf
    conv => rhs; rw [id, ← List.map_id f]
    apply List.map_congr_left
    intro x hx
    have hu := hA'.uf f hf x hx
    exact hw x hu.1 hu.2 (hA'.okf f hf x hx)
  have eR : sR (sF fs (rL fs rs)) (allN (rL fs rs).length) (slR fs rs) = slR fs rs := by
    unfold sR
    conv => rhs; rw [← List.map_id (slR fs rs)]
    apply List.map_congr_left
    intro x hx
    have hu := hA'.ur x hx
    exact hw x hu.1 hu.2 (hA'.okr x hx)
  constructor
  · unfold slL
    rw [hall, eH, eF]
  · show sR _ (rL (sF fs (rL fs rs)) (slR fs rs)) (slR fs rs) = _
    rw [hall, eR]

/-- It has the words of what can be come to. -/
theorem slid_size (h : Arn hs fs rs) : (slL hs fs rs).length = tot (mF fs rs) := by
  rw [slL_len h, sF_tot, ← size_eq h]
  rfl

theorem slid_canon (h : Arn hs fs rs) : canonG (readG (sF fs (rL fs rs)) (slR fs rs)) = canonG (readG fs rs) := canon_slid h (whole_rL h)

theorem ageW_reh (b : Bool) (x : Int) : ageW (reh b x) = ageW x := by
  unfold ageW
  have h := reh_ok b x
  rw [h.2.1, h.2.2.2.1]

/-- What was moved down, and then moved, is what was moved at once. -/
theorem slid_moved (h : Arn hs fs rs) : mvL (sH hs (rL fs rs)) (sF fs (rL fs rs)) (slR fs rs) = mvL hs fs rs ∧ mvR (sF fs (rL fs rs)) (slR fs rs) = mvR fs rs := by
  have hA' : Arn (sH hs (rL fs rs)) (sF fs (rL fs rs)) (slR fs rs) := arn_slid h (whole_rL h)
  have hc := slid_canon h
  have e1 : mF (sF fs (rL fs rs)) (slR fs rs) = mF fs rs := by rw [mF_lay hA', mF_lay h, hc]
  have e2 : mvR (sF fs (rL fs rs)) (slR fs rs) = mvR fs rs := by rw [mR_lay hA', mR_lay h, hc]
  refine ⟨?_, e2⟩
  have e3 : mH (sH hs (rL fs rs)) (sF fs (rL fs rs)) (slR fs rs) = mH hs fs rs := by
    unfold mH
    rw [slid_order h, List.map_map]
    apply List.map_congr_left
    intro o ho
    have hm := (mem_rL h o).2 ho
    have hg := placeOf_get hm
    simp only [Function.comp]
    unfold Ytnbhciejlidnlaa.hO
    rw [List.getD_eq_getElem?_getD]
    unfold sH
    rw [List.getElem?_map, hg]
    simp only [Option.map_some, Option.getD_some]
    unfold rO
    rw [ageW_reh]
  rw [mvL_eq, mvL_eq, e1, e3]

end

end Go.Proofs.Ytnbhciejlidnlaa

/- Walks: the document's headers of what is moved down. -/
namespace Go.Proofs.Ytnbhciejlidnlaa
set_option linter.unusedSimpArgs false
set_option linter.unusedVariables false
open Go.RowKit Go.Shelf

/-- Headers of some objects, without marks, of their age. -/
def sdHd (hs : List Int) (L : List Int) : List Hd := L.map fun o => (uhL (hs.getD o.toNat 0), false, uhA (hs.getD o.toNat 0))
theorem sdHd_len (hs L : List Int) : (sdHd hs L).length = L.length := by simp [sdHd]
theorem sdHd_hW (hs L : List Int) : (sdHd hs L).map hW = L.map (rO hs) := by
  unfold sdHd
  rw [List.map_map]
  rfl

set_option maxRecDepth 100000 in
set_option maxHeartbeats 2000000 in
theorem headsOf0_c (aw ar al : Option Addr) (cw nr cr cl : Nat) (ws : List Int) (hs : List Int) (fs : List (List Int)) (L : List Int) (B : Nat) (w : World) (hW : Wds B w aw ws) (hUW : U64 ws) (hB : B ≤ w.heap.size) (hF : Fit hs fs) (hws : ws = joinW hs fs) (h256 : ws.length ≤ 256)
    (hl : Ints B w al L) (hin : ∀ o ∈ L, 0 ≤ o ∧ o < fs.length) (hL : L.length ≤ 256) :
    Calls Try.prog 32 #[.agg #[.slice aw ws.length cw, .slice ar nr cr], .slice al L.length cl, .int .i64 0] w fun e w' => (∃ a c, e = .returned (.slice a L.length c) ∧ Hdrs w'.heap.size w' a (sdHd hs L)) ∧ Below w.heap.size w w' := by
  obtain ⟨i0, hi0, hz0, hz1, hz2⟩ := info_parts Try.info42
  obtain ⟨W1, hW1⟩ : ∃ W1, w.alloc (.cells #[.slice aw ws.length cw, .slice ar nr cr] 24) = W1 := ⟨_, rfl⟩
  have hb1 : Below w.heap.size w W1 := by rw [← hW1]; exact (Below.refl w.heap.size w).alloc (Nat.le_refl _) _
  have hs1 : w.heap.size < W1.heap.size := by rw [← hW1]; simp
  have g0 : W1.cell? ⟨w.heap.size, 0, none⟩ = some (.slice aw ws.length cw) := by rw [← hW1]; simp [go_sem]
  have g1 : W1.cell? ⟨w.heap.size, 1, none⟩ = some (.slice ar nr cr) := by rw [← hW1]; simp [go_sem]
  have Hc1 := hide (heads_c aw ar cw nr cr ws hs fs B W1 (hW.below (hb1.mono hB)) hUW (by omega) hF hws h256)
  have hfl := hF.len
  have Hlen : Hid (hs.length = fs.length) := hfl
  have htl : hs.length ≤ 256 := by have := tot_len fs; rw [hws, joinW_len _ _ hF.len] at h256; omega
  have HL := hide (hl.below (hb1.mono hB))
  have Hin : Hid (∀ o ∈ L, 0 ≤ o ∧ o < hs.length) := fun o ho => by have := hin o ho; omega
  clear hF hws hUW hW hl hfl hin
  go_enter Try.func32, Try.ntmps32
  go_wp2_with fail
  refine (unhide Hc1).mono ?_
  rintro e w2 ⟨⟨v, rfl, hown⟩, hb2⟩
  obtain ⟨ha, hc, rfl, hH⟩ := hdrs_of_owns hown (by simp [headsH]) (by omega)
  rw [headsH_len]
  have hs2 := hb2.size
  have hbw2 : Below w.heap.size w w2 := hb1.trans (hb2.mono (by omega))
  have HH := hide hH
  have HL2 := hide ((unhide HL).below (hb2.mono (by omega)))
  have hB2 : B ≤ w2.heap.size := by omega
  clear hW1 Hc1 hown hH hb1 hb2 HL g0 g1 hs1
  go_wp2
  go_loopw [8, 16] (fun s i wr => ∃ k : Nat, k ≤ L.length ∧ i = .int .i64 k ∧ wr.ownsRow w2.heap.size 42 3 s k (cellsH (sdHd hs (L.take k))) ∧ Below w2.heap.size w2 wr) (fun _ i _ => L.length - (intOf i).toNat)
  case atStart => exact ⟨0, Nat.zero_le _, rfl, by simpa [cellsH, sdHd] using World.ownsRow_nil _ _ _ _, Below.refl _ _⟩
  case round =>
    obtain ⟨k, hk, rfl, hown, hb⟩ := hrel
    have hsz := hb.size
    by_cases hlt : k < L.length
    · obtain ⟨b1, o1, rfl, hB1, hc1⟩ := ((unhide HL2).below (hb.mono hB2)).at hlt
      have hro := unhide Hin _ (List.getElem_mem hlt)
      have HT : Hid (sdHd hs (L.take (k + 1)) = sdHd hs (L.take k) ++ [(uhL (hs.getD (L[k]).toNat 0), false, uhA (hs.getD (L[k]).toNat 0))]) := by
        show _ = _
        rw [List.take_succ_eq_append_getElem hlt]
        simp only [sdHd, List.map_append, List.map_cons, List.map_nil]
      have hcl : (L[k]).toNat < (headsH hs).length := by rw [headsH_len]; omega
      obtain ⟨b2, o2, n, m, a, rfl, hB2', hd1, hd2, hd3, He⟩ := ((unhide HH).below hb).at hcl
      have He' : Hid (hs.getD (L[k]).toNat 0 = hs.getD (L[k]).toNat 0 ∧ n = uhL (hs.getD (L[k]).toNat 0) ∧ a = uhA (hs.getD (L[k]).toNat 0)) := by
        have hh := He.out
        simp only [headsH, List.getElem_map, Prod.mk.injEq] at hh
        have e1 : hs.getD (L[k]).toNat 0 = hs[(L[k]).toNat]'(by omega) := by rw [List.getD_eq_getElem?_getD, List.getElem?_eq_getElem (by omega), Option.getD_some]
        exact ⟨rfl, by rw [e1]; exact hh.1.symm, by rw [e1]; exact hh.2.2.symm⟩
      have hab : 0 ≤ a ∧ a ≤ 7 := by
        rw [(unhide He').2.2]
        unfold uhA; split
        · omega
        · omega
      generalize L[k] = o at *
      obtain ⟨o, rfl⟩ := Int.eq_ofNat_of_zero_le hro.1
      simp only [Int.toNat_natCast] at *
      have hoI : (o : Int) < (hs.length : Int) := hro.2
      have hq1 : b1 < wr.heap.size := by omega
      have hq2 : b2 < wr.heap.size := by omega
      have hw1 : IntKind.i64.wrap a = a := by rw [IntKind.wrap_i64]; omega
      have HT2 : Hid (sdHd hs (L.take (k + 1)) = sdHd hs (L.take k) ++ [(n, false, a)]) := by
        show _ = _
        rw [unhide HT, (unhide He').2.1, (unhide He').2.2]
      clear HT He He' hro hcl
      have hmx : k + 1 ≤ maxLen := by simp only [maxLen]; omega
      have hmy : (k + 1) * 24 ≤ 140737488355328 := by omega
      have d7 : decide (7 < a) = false := by simp; omega
      have d7' : decide (a > 7) = false := by simp; omega
      go_wp2_with (at_builtin; go_must (refine wpList_append_own _ rfl _ _ 64 rfl w2.heap.size 42 i0 _ 3 24 Try.underlying64 hi0 hz0 hz1 hz2 rfl (by decide) _ _ _ rfl ((hown.alloc _).alloc _) ⟨wr.heap.size + 1, 0, none⟩ 1 1 [.int .i64 n, .bool false, .int .i64 a] rfl rfl (cell_three_at _ _ _ _ _ _ (by simp)) (by simp [Value.oneCell']) hmx hmy (by simp; omega) ?_); intro v' w1 hown' hgrow _)
      go_roundw
      case rel =>
        refine ⟨k + 1, by omega, by go_num, ?_, ((hb.alloc hsz _).alloc (by simp; omega) _).grown hgrow (by simp; omega) (fun q e => (hown.lt q e).1)⟩
        rw [unhide HT2, cellsH_snoc]
        exact hown'
      case measure => simp [intOf]; omega
    · obtain rfl : k = L.length := by omega
      rw [List.take_length] at hown
      obtain ⟨ra, rc, hv, hR⟩ := hdrs_of_owns hown (by rw [sdHd_len]) (by omega)
      rw [sdHd_len] at hv
      subst hv
      have HR := hide hR
      clear hown hR
      go_wp2
      go_ret
      exact ⟨⟨_, _, rfl, unhide HR⟩, hbw2.trans (hb.mono (by have := hbw2.size; omega))⟩

end Go.Proofs.Ytnbhciejlidnlaa

/- Walks: the document's Mark. -/
namespace Go.Proofs.Ytnbhciejlidnlaa
set_option linter.unusedSimpArgs false
set_option linter.unusedVariables false
open Go.RowKit Go.Shelf

/-- A block that holds no number. -/
def NoNum (W : World) (rb : Nat) : Prop := ∃ cs t, W.heap[rb]? = some (.cells cs t) ∧ ∀ (i : Nat) (k : IntKind) (x : Int), cs[i]? ≠ some (Value.int k x)

theorem NoNum.wds {W : World} {rb B j : Nat} {a : Option Addr} {l : List Int} (h : NoNum W rb) (hw : Wds B W a l) (u : Value) : Wds B (W.setCell ⟨rb, j, none⟩ u) a l := by
  refine ⟨hw.1, fun hne => ?_⟩
  obtain ⟨b, off, rfl, hB, hc⟩ := hw.2 hne
  obtain ⟨cs, t, hb, hn⟩ := h
  have hbr : b ≠ rb := by
    rintro rfl
    have h0 : 0 < l.length := List.length_pos_iff.2 hne
    have := hc 0 l[0] (List.getElem?_eq_getElem h0)
    rw [cell_of_row W b (off + 0) cs t (0, 0) hb] at this
    exact hn _ _ _ this
  refine ⟨b, off, rfl, hB, fun k v hk => ?_⟩
  rw [World.cell?_of_block (a := ⟨b, off + k, none⟩) (Below.heap_setCell _ _ _ _ hbr)]
  exact hc k v hk

theorem NoNum.set {W : World} {rb j : Nat} (h : NoNum W rb) {u : Value} (hu : ∀ (k : IntKind) (x : Int), u ≠ Value.int k x) : NoNum (W.setCell ⟨rb, j, none⟩ u) rb := by
  obtain ⟨cs, t, hb, hn⟩ := h
  refine ⟨_, t, heap_setCell_same W rb j cs t u hb, fun i k x => ?_⟩
  rw [Array.getElem?_setIfInBounds]
  split
  · split
    · intro e; injection e with e; exact hu k x e
    · simp
  · exact hn i k x

theorem ints_keep {B : Nat} {W W' : World} {a : Option Addr} {l : List Int} (h : Ints B W a l) (hb : ∀ b off, a = some ⟨b, off, none⟩ → b < B → W'.heap[b]? = W.heap[b]?) : Ints B W' a l := by
  refine ⟨h.1, fun hne => ?_⟩
  obtain ⟨b, off, rfl, hB, hc⟩ := h.2 hne
  refine ⟨b, off, rfl, hB, fun k v hk => ?_⟩
  rw [World.cell?_of_block (a := ⟨b, off + k, none⟩) (hb b off rfl hB)]
  exact hc k v hk

/-- What the document's Mark tells. -/
def RMk (L rs : List Int) (e : Ending) (W : World) : Prop :=
  ∃ aw cw ar cr, e = .returned (.agg #[.slice aw L.length cw, .slice ar rs.length cr]) ∧ Wds W.heap.size W aw L ∧ Wds W.heap.size W ar rs

end Go.Proofs.Ytnbhciejlidnlaa

/- Walks: the document's Slide. -/
namespace Go.Proofs.Ytnbhciejlidnlaa
set_option linter.unusedSimpArgs false
set_option linter.unusedVariables false
open Go.RowKit Go.Shelf

/-- What Renumber, headsOf, Lay hand back. -/
def RnS (X : World) (g : Gr) (L : List Int) (v : Value) (W : World) : Prop :=
  ∃ ao co ar cr, v = .agg #[.slice ao (renL g L).objs.length co, .slice ar (renL g L).roots.length cr] ∧ Objs W.heap.size W ao (renL g L).objs ∧ Vals W.heap.size W ar (renL g L).roots ∧ Below X.heap.size X W
def HdS (X : World) (hs L : List Int) (v : Value) (W : World) : Prop :=
  ∃ a c, v = .slice a L.length c ∧ Hdrs W.heap.size W a (sdHd hs L) ∧ Below X.heap.size X W
def LyS (X : World) (L R : List Int) (v : Value) (W : World) : Prop :=
  ∃ aw cw ar cr, v = .agg #[.slice aw L.length cw, .slice ar R.length cr] ∧ Wds W.heap.size W aw L ∧ Wds W.heap.size W ar R ∧ Below X.heap.size X W

theorem lay_slid {hs : List Int} {fs : List (List Int)} {rs : List Int} (hA : Arn hs fs rs) (ao ar ah : Option Addr) (co cr ch : Nat) (X : World)
    (hO : Objs X.heap.size X ao (renL (readG fs rs) (rL fs rs)).objs) (hV : Vals X.heap.size X ar (renL (readG fs rs) (rL fs rs)).roots) (hH : Hdrs X.heap.size X ah (sdHd hs (rL fs rs))) :
    Calls Try.prog 30 #[.agg #[.slice ao (renL (readG fs rs) (rL fs rs)).objs.length co, .slice ar (renL (readG fs rs) (rL fs rs)).roots.length cr], .slice ah (rL fs rs).length ch] X fun e w' => ∃ v, e = .returned v ∧ LyS X (slL hs fs rs) (slR fs rs) v w' := by
  have hG := good_ren (good_read hA) (whole_rL hA)
  obtain ⟨hnr, hno⟩ := num_renL hA (whole_rL hA)
  have h := rlay_c ao ar ah co cr ch (renL (readG fs rs) (rL fs rs)) (sdHd hs (rL fs rs)) X.heap.size X hO hV hH (by rw [sdHd_len, renL_len]) (Nat.le_refl _) hG.n24 hG.n4 hG.n8 hG.rr hG.ro hnr hno
  rw [sdHd_len] at h
  refine h.mono ?_
  rintro e w' ⟨⟨aw', cw', ar', cr', he, h1, h2⟩, h3⟩
  have e1 : layHW (stF 0 (renL (readG fs rs) (rL fs rs)).objs) (sdHd hs (rL fs rs)) (renL (readG fs rs) (rL fs rs)).objs = slL hs fs rs := by
    unfold layHW
    rw [sdHd_hW, ← sF_lay (whole_rL hA)]
    rfl
  have e2 : slR fs rs = _ := sR_lay (whole_rL hA)
  rw [e1] at he h1
  rw [← e2] at he h2
  exact ⟨_, he, aw', cw', ar', cr', rfl, h1, h2, h3⟩

set_option maxRecDepth 100000 in
set_option maxHeartbeats 8000000 in
theorem rslide_c (aw ar : Option Addr) (cw cr : Nat) (ws rs : List Int) (hs : List Int) (fs : List (List Int)) (B : Nat) (w : World) (hW : Wds B w aw ws) (hR : Wds B w ar rs) (hUW : U64 ws) (hUR : U64 rs) (hB : B ≤ w.heap.size) (hA : Arn hs fs rs) (hws : ws = joinW hs fs) :
    Calls Try.prog 10 #[.agg #[.slice aw ws.length cw, .slice ar rs.length cr]] w fun e w' => RMk (slL hs fs rs) (slR fs rs) e w' ∧ Below w.heap.size w w' := by
  have hsp : splitR ws = some fs := by rw [hws]; exact fit_split hA.fit
  have h256 : ws.length ≤ 256 := by rw [hws, joinW_len _ _ hA.fit.len]; exact hA.n256
  obtain ⟨W1, hW1⟩ : ∃ W1, (w.alloc (.cells #[.slice aw ws.length cw, .slice ar rs.length cr] 24)).alloc (.cells #[.slice none 0 0, .slice none 0 0] 24) = W1 := ⟨_, rfl⟩
  have hb1 : Below w.heap.size w W1 := by rw [← hW1]; exact ((Below.refl w.heap.size w).alloc (Nat.le_refl _) _).alloc (by simp) _
  have hs1 : w.heap.size + 1 < W1.heap.size := by rw [← hW1]; simp
  have g0 : W1.cell? ⟨w.heap.size, 0, none⟩ = some (.slice aw ws.length cw) := by rw [← hW1]; simp [go_sem]
  have g1 : W1.cell? ⟨w.heap.size, 1, none⟩ = some (.slice ar rs.length cr) := by rw [← hW1]; simp [go_sem]
  have hr0 : W1.heap[w.heap.size + 1]? = some (.cells #[.slice none 0 0, .slice none 0 0] 24) := by
    have := heap_alloc_new (w.alloc (.cells #[.slice aw ws.length cw, .slice ar rs.length cr] 24)) (.cells #[.slice none 0 0, .slice none 0 0] 24)
    rw [hW1] at this
    simpa using this
  have Hc1 := hide (rread_c aw ar cw cr ws rs fs B W1 (hW.below (hb1.mono hB)) (hR.below (hb1.mono hB)) hUW hUR (by omega) h256 hA.n8 hsp)
  have HA := hide hA
  have HG := hide (good_read hA)
  have HWh := hide (whole_rL hA)
  have Hws := hide hws
  have Hr0 := hide hr0
  have hOl : (rL fs rs).length ≤ 256 := by have := (whole_rL hA).ok.len; have := hA.n256; omega
  have HR := hide (fun o ho => (whole_rL hA).ok.rng o ho)
  clear hA hws hsp hr0
  go_enter Try.func10, Try.ntmps10
  go_wp2_with fail
  refine (unhide Hc1).mono ?_
  rintro e w2 ⟨⟨ao, co, ar2, cr2, he, hO, hV⟩, hb2⟩
  subst he
  have hs2 := hb2.size
  have hbw2 : Below w.heap.size w w2 := hb1.trans (hb2.mono (by omega))
  obtain ⟨W2, hW2⟩ : ∃ W2, w2.alloc (.cells #[.slice ao (readG fs rs).objs.length co, .slice ar2 (readG fs rs).roots.length cr2] 39) = W2 := ⟨_, rfl⟩
  have hb2' : Below w2.heap.size w2 W2 := by rw [← hW2]; exact (Below.refl _ _).alloc (Nat.le_refl _) _
  have hs2' : w2.heap.size < W2.heap.size := by rw [← hW2]; simp
  have k0 : W2.cell? ⟨w2.heap.size, 0, none⟩ = some (.slice ao (readG fs rs).objs.length co) := by rw [← hW2]; simp [go_sem]
  have k1 : W2.cell? ⟨w2.heap.size, 1, none⟩ = some (.slice ar2 (readG fs rs).roots.length cr2) := by rw [← hW2]; simp [go_sem]
  replace g0 := (hb2'.cell (p := ⟨w.heap.size, 0, none⟩) (by simp; omega)).trans ((hb2.cell (p := ⟨w.heap.size, 0, none⟩) (by simp; omega)).trans g0)
  replace g1 := (hb2'.cell (p := ⟨w.heap.size, 1, none⟩) (by simp; omega)).trans ((hb2.cell (p := ⟨w.heap.size, 1, none⟩) (by simp; omega)).trans g1)
  have hbW2 : Below w.heap.size w W2 := hbw2.trans (hb2'.mono (by omega))
  have hwW2 : w.heap.size < W2.heap.size := by omega
  replace Hr0 := hide ((hb2'.block (w.heap.size + 1) (by omega)).trans ((hb2.block (w.heap.size + 1) (by omega)).trans (unhide Hr0)))
  have HO := hide ((hO.below hb2').mono (B' := W2.heap.size) (by omega))
  have HV := hide ((hV.below hb2').mono (B' := W2.heap.size) (by omega))
  have Hc2 := hide (show Calls Try.prog 15 #[.agg #[.slice ao (readG fs rs).objs.length co, .slice ar2 (readG fs rs).roots.length cr2]] W2 fun e w' => ∃ a cap, e = .returned (.slice a (rL fs rs).length cap) ∧ Ints w'.heap.size w' a (rL fs rs) ∧ Below W2.heap.size W2 w' from refReach_c ao ar2 co cr2 (readG fs rs) W2.heap.size W2 (unhide HO) (unhide HV) (Nat.le_refl _) (unhide HG))
  clear Hc1 hO hV hW1 hb1 hb2 hb2' hbw2
  go_wp2_with fail
  refine (unhide Hc2).mono ?_
  rintro e w3 ⟨la, lc, he, hI, hb3⟩
  subst he
  have hs3 := hb3.size
  replace k0 := (hb3.cell (p := ⟨w2.heap.size, 0, none⟩) hs2').trans k0
  replace k1 := (hb3.cell (p := ⟨w2.heap.size, 1, none⟩) hs2').trans k1
  replace g0 := (hb3.cell (p := ⟨w.heap.size, 0, none⟩) hwW2).trans g0
  replace g1 := (hb3.cell (p := ⟨w.heap.size, 1, none⟩) hwW2).trans g1
  replace Hr0 := hide ((hb3.block (w.heap.size + 1) (by omega)).trans (unhide Hr0))
  have hbw3 : Below w.heap.size w w3 := hbW2.trans (hb3.mono (by omega))
  have hl3 : w2.heap.size < w3.heap.size := by omega
  have hl3' : w.heap.size < w3.heap.size := by omega
  have hl3'' : w.heap.size + 1 < w3.heap.size := by omega
  have hO3 : Objs w3.heap.size w3 ao (readG fs rs).objs := ((unhide HO).below hb3).mono hs3
  have hV3 : Vals w3.heap.size w3 ar2 (readG fs rs).roots := ((unhide HV).below hb3).mono hs3
  have HcA : Hid (∀ X, Below w3.heap.size w3 X → Calls Try.prog 31 #[.agg #[.slice ao (readG fs rs).objs.length co, .slice ar2 (readG fs rs).roots.length cr2], .slice la (rL fs rs).length lc] X fun e w' => ∃ v, e = .returned v ∧ RnS X (readG fs rs) (rL fs rs) v w') := by
    intro X hb
    refine (renum_c ao ar2 la co cr2 lc (readG fs rs) (rL fs rs) X ((hO3.below hb).mono hb.size) ((hV3.below hb).mono hb.size) ((hI.below hb).mono hb.size) (unhide HG) hOl (fun o ho => (unhide HWh).rng o ho)).mono ?_
    rintro e w' ⟨x1, x2, x3, x4, rfl, ⟨base, es, _, hrow⟩, h6, _, h8⟩
    obtain ⟨va, vc, hv, hO'⟩ := hrow.objs (by have := (good_ren (unhide HG) (unhide HWh)).n24; exact Nat.le_trans this (by omega))
    injection hv with h1 _ h3
    subst h1 h3
    exact ⟨_, rfl, _, _, _, _, rfl, hO', h6, h8⟩
  have HcH : Hid (∀ X, Below w3.heap.size w3 X → Calls Try.prog 32 #[.agg #[.slice aw ws.length cw, .slice ar rs.length cr], .slice la (rL fs rs).length lc, .int .i64 0] X fun e w' => ∃ v, e = .returned v ∧ HdS X hs (rL fs rs) v w') := by
    intro X hb
    have hbX : Below w.heap.size w X := hbw3.trans (hb.mono (by omega))
    refine (headsOf0_c aw ar la cw rs.length cr lc ws hs fs (rL fs rs) X.heap.size X ((hW.below (hbX.mono hB)).mono (by have := hbX.size; omega)) hUW (Nat.le_refl _) (unhide HA).fit (unhide Hws) h256 ((hI.below hb).mono hb.size) (unhide HR) hOl).mono ?_
    rintro e w' ⟨⟨a, c, rfl, h1⟩, h2⟩
    exact ⟨_, rfl, a, c, rfl, h1, h2⟩
  have HcL := hide (fun X ao ar ah co cr ch h1 h2 h3 => lay_slid (unhide HA) ao ar ah co cr ch X h1 h2 h3)
  clear hW2 hb3 hO3 hV3 hI HO HV Hc2 hW hR
  generalize readG fs rs = g at *
  go_wp2_with fail
  have hbd : Below w3.heap.size w3 w3.drew := (Below.refl _ _).drew
  have hbwd : Below w.heap.size w w3.drew := hbw3.trans (hbd.mono (by omega))
  go_region_law (first
    | (refine step_call rfl 31 #[.agg #[.slice ao g.objs.length co, .slice ar2 g.roots.length cr2], .slice la (rL fs rs).length lc] (by go_simp) (fun v w' => RnS w3.drew g (rL fs rs) v w') (unhide HcA _ hbd) ?_; rintro vA wA ⟨a6, c6, r6, d6, rfl, hOA, hVA, hbA⟩; have hsA := hbA.size; have hb3A : Below w3.heap.size w3 wA := hbd.trans hbA; have g0A := (hbA.cell (p := ⟨w.heap.size, 0, none⟩) hl3').trans g0; have g1A := (hbA.cell (p := ⟨w.heap.size, 1, none⟩) hl3').trans g1)
    | (refine step_call rfl 32 #[.agg #[.slice aw ws.length cw, .slice ar rs.length cr], .slice la (rL fs rs).length lc, .int .i64 0] (by go_simp) (fun v w' => HdS w3.drew hs (rL fs rs) v w') (unhide HcH _ hbd) ?_; rintro vH wH ⟨ha, hc, rfl, hHH0, hbH0⟩; have hsH0 := hbH0.size; have hb3H : Below w3.heap.size w3 wH := hbd.trans hbH0; have k0H := (hbH0.cell (p := ⟨w2.heap.size, 0, none⟩) hl3).trans k0; have k1H := (hbH0.cell (p := ⟨w2.heap.size, 1, none⟩) hl3).trans k1)
    | (refine step_call rfl 32 #[.agg #[.slice aw ws.length cw, .slice ar rs.length cr], .slice la (rL fs rs).length lc, .int .i64 0] (by go_simp) (fun v w' => HdS wA hs (rL fs rs) v w') (unhide HcH _ hb3A) ?_; rintro vH wH ⟨ha, hc, rfl, hHH, hbH⟩; have hsH := hbH.size; have hOH := (hOA.below hbH).mono hbH.size; have hVH := (hVA.below hbH).mono hbH.size; have hb3Z : Below w3.heap.size w3 wH := hb3A.trans (hbH.mono hsA))
    | (refine step_call rfl 31 #[.agg #[.slice ao g.objs.length co, .slice ar2 g.roots.length cr2], .slice la (rL fs rs).length lc] (by go_simp) (fun v w' => RnS wH g (rL fs rs) v w') (unhide HcA _ hb3H) ?_; rintro vA wA ⟨a6, c6, r6, d6, rfl, hOA1, hVA1, hbA1⟩; have hsA1 := hbA1.size; have hHA := (hHH0.below hbA1).mono hbA1.size; have hb3Z : Below w3.heap.size w3 wA := hb3H.trans (hbA1.mono hsH0))
    | (refine step_call rfl 30 #[.agg #[.slice a6 (renL g (rL fs rs)).objs.length c6, .slice r6 (renL g (rL fs rs)).roots.length d6], .slice ha (rL fs rs).length hc] (by go_simp) (fun v w' => LyS wH (slL hs fs rs) (slR fs rs) v w') (unhide HcL _ _ _ _ _ _ _ hOH hVH hHH) ?_; rintro vL w5 ⟨aw', cw', ar', cr', rfl, h1, h2, hbL⟩; have hbZ : Below w3.heap.size w3 w5 := hb3Z.trans (hbL.mono hb3Z.size); have hs5 := hbZ.size; have hrb5 : w5.heap[w.heap.size + 1]? = some (.cells #[.slice none 0 0, .slice none 0 0] 24) := (hbZ.block (w.heap.size + 1) (by omega)).trans (unhide Hr0); have r0 : w5.cell? ⟨w.heap.size + 1, 0, none⟩ = some (.slice none 0 0) := by { rw [cell_of_row w5 (w.heap.size + 1) 0 _ 24 (0, 0) hrb5]; rfl }; have r1 : w5.cell? ⟨w.heap.size + 1, 1, none⟩ = some (.slice none 0 0) := by { rw [cell_of_row w5 (w.heap.size + 1) 1 _ 24 (0, 0) hrb5]; rfl }; have z0 : w5.frozen? ⟨w.heap.size + 1, 0, none⟩ = false := frozen_of_row _ _ 0 _ 24 hrb5; have z1 : w5.frozen? ⟨w.heap.size + 1, 1, none⟩ = false := frozen_of_row _ _ 1 _ 24 hrb5; have hl5 : w.heap.size + 1 < w5.heap.size := by omega)
    | (refine step_call rfl 30 #[.agg #[.slice a6 (renL g (rL fs rs)).objs.length c6, .slice r6 (renL g (rL fs rs)).roots.length d6], .slice ha (rL fs rs).length hc] (by go_simp) (fun v w' => LyS wA (slL hs fs rs) (slR fs rs) v w') (unhide HcL _ _ _ _ _ _ _ hOA1 hVA1 hHA) ?_; rintro vL w5 ⟨aw', cw', ar', cr', rfl, h1, h2, hbL⟩; have hbZ : Below w3.heap.size w3 w5 := hb3Z.trans (hbL.mono hb3Z.size); have hs5 := hbZ.size; have hrb5 : w5.heap[w.heap.size + 1]? = some (.cells #[.slice none 0 0, .slice none 0 0] 24) := (hbZ.block (w.heap.size + 1) (by omega)).trans (unhide Hr0); have r0 : w5.cell? ⟨w.heap.size + 1, 0, none⟩ = some (.slice none 0 0) := by { rw [cell_of_row w5 (w.heap.size + 1) 0 _ 24 (0, 0) hrb5]; rfl }; have r1 : w5.cell? ⟨w.heap.size + 1, 1, none⟩ = some (.slice none 0 0) := by { rw [cell_of_row w5 (w.heap.size + 1) 1 _ 24 (0, 0) hrb5]; rfl }; have z0 : w5.frozen? ⟨w.heap.size + 1, 0, none⟩ = false := frozen_of_row _ _ 0 _ 24 hrb5; have z1 : w5.frozen? ⟨w.heap.size + 1, 1, none⟩ = false := frozen_of_row _ _ 1 _ 24 hrb5; have hl5 : w.heap.size + 1 < w5.heap.size := by omega))
  all_goals
    have hnn : NoNum w5 (w.heap.size + 1) := ⟨_, 24, hrb5, fun i k x => by
      match i with
      | 0 => simp
      | 1 => simp
      | i + 2 => simp⟩
    have Hfin : Hid (∀ W, W = (w5.setCell ⟨w.heap.size + 1, 0, none⟩ (.slice aw' (slL hs fs rs).length cw')).setCell ⟨w.heap.size + 1, 1, none⟩ (.slice ar' (slR fs rs).length cr') → RMk (slL hs fs rs) (slR fs rs) (.returned (.agg #[.slice aw' (slL hs fs rs).length cw', .slice ar' (slR fs rs).length cr'])) W ∧ Below w.heap.size w W) := fun W h => by
      subst h
      have hsz5 : ((w5.setCell ⟨w.heap.size + 1, 0, none⟩ (.slice aw' (slL hs fs rs).length cw')).setCell ⟨w.heap.size + 1, 1, none⟩ (.slice ar' (slR fs rs).length cr')).heap.size = w5.heap.size := by simp [World.setCell]
      have hn1 := hnn.set (j := 0) (u := .slice aw' (slL hs fs rs).length cw') (by simp)
      refine ⟨⟨aw', cw', ar', cr', rfl, ?_, ?_⟩, ((hbw3.trans (hbZ.mono (by omega))).setCell (p := ⟨w.heap.size + 1, 0, none⟩) (by simp) _).setCell (p := ⟨w.heap.size + 1, 1, none⟩) (by simp) _⟩
      · rw [hsz5]; exact hn1.wds (hnn.wds h1 _) _
      · rw [hsz5]; exact hn1.wds (hnn.wds h2 _) _
    clear h1 h2 hnn hrb5
    generalize (slL hs fs rs).length = n at *
    generalize (slR fs rs).length = m at *
    go_wp2
    exact bodyPost_ret (v := .agg #[.slice aw' n cw', .slice ar' m cr']) (by simp [results, Try.results10, go_sem, r0, r1]) rfl (unhide Hfin _ rfl)

end Go.Proofs.Ytnbhciejlidnlaa

/- Walks: SlideTells. -/
namespace Go.Proofs.Ytnbhciejlidnlaa
set_option linter.unusedSimpArgs false
set_option linter.unusedVariables false
open Go.RowKit Go.Shelf

theorem SdRes.use {base : Nat} {ws rs : List Int} {e : Ending} {W : World} (h : SdRes base ws rs e W) : (arenaE ws rs ≠ 0 ∧ e = .returned (.tuple #[.agg #[.slice none 0 0, .slice none 0 0], .int .i64 (arenaE ws rs)])) ∨
    (arenaE ws rs = 0 ∧ ∃ hs fs a c a' c', Arn hs fs rs ∧ ws = joinW hs fs ∧ e = .returned (.tuple #[.agg #[.slice a (slL hs fs rs).length c, .slice a' (slR fs rs).length c'], .int .i64 0]) ∧ Wds W.heap.size W a (slL hs fs rs) ∧ Wds W.heap.size W a' (slR fs rs) ∧ (slL hs fs rs).length ≤ c) := by
  rcases h with h | ⟨hE, hs, fs, a, c, a', c', h1, h2, h3, h4, h5, h6⟩
  · exact .inl h
  · exact .inr ⟨hE, hs, fs, a, c, a', c', h1, h2, by rw [h3]; simp [slR, sR], h4.1, h6.1, h5⟩

set_option maxRecDepth 100000 in
set_option maxHeartbeats 8000000 in
theorem stells_c (aw ar : Option Addr) (cw cr : Nat) (ws rs : List Int) (w : World) (hW : Wds w.heap.size w aw ws) (hR : Wds w.heap.size w ar rs) (hUW : U64 ws) (hUR : U64 rs) (hcap : ws.length ≤ cw) :
    Calls Try.prog 3 #[.agg #[.slice aw ws.length cw, .slice ar rs.length cr]] w fun e w' => e = .returned (.bool true) ∧ Below w.heap.size w w' := by
  obtain ⟨W1, hW1⟩ : ∃ W1, w.alloc (.cells #[.slice aw ws.length cw, .slice ar rs.length cr] 24) = W1 := ⟨_, rfl⟩
  have hb1 : Below w.heap.size w W1 := by rw [← hW1]; exact (Below.refl w.heap.size w).alloc (Nat.le_refl _) _
  have hs1 : w.heap.size < W1.heap.size := by rw [← hW1]; simp
  have g0 : W1.cell? ⟨w.heap.size, 0, none⟩ = some (.slice aw ws.length cw) := by rw [← hW1]; simp [go_sem]
  have g1 : W1.cell? ⟨w.heap.size, 1, none⟩ = some (.slice ar rs.length cr) := by rw [← hW1]; simp [go_sem]
  have Hc1 := hide (slide_c aw ar cw cr ws rs w.heap.size W1 (hW.below hb1) (hR.below hb1) hUW hUR (by omega) hcap)
  go_enter Try.func3, Try.ntmps3
  go_wp2_with fail
  refine (unhide Hc1).mono ?_
  rintro e w2 ⟨hres, hb2⟩
  have hs2 := hb2.size
  have hbw2 : Below w.heap.size w w2 := hb1.trans (hb2.mono (by omega))
  replace g0 := (hb2.cell (p := ⟨w.heap.size, 0, none⟩) hs1).trans g0
  replace g1 := (hb2.cell (p := ⟨w.heap.size, 1, none⟩) hs1).trans g1
  have hl2 : w.heap.size < w2.heap.size := by omega
  clear hb1 hb2 Hc1 hW1
  rcases hres.use with ⟨hE, he⟩ | ⟨hE, hs, fs, ba, bc, ba', bc', hA, hws, he, hBL, hBR, _⟩
  · subst he
    obtain ⟨W2, hW2⟩ : ∃ W2, w2.alloc (.cells #[.slice none 0 0, .slice none 0 0] 24) = W2 := ⟨_, rfl⟩
    have hb2' : Below w2.heap.size w2 W2 := by rw [← hW2]; exact (Below.refl _ w2).alloc (Nat.le_refl _) _
    have hs2' : w2.heap.size < W2.heap.size := by rw [← hW2]; simp
    have k0 : W2.cell? ⟨w2.heap.size, 0, none⟩ = some (.slice none 0 0) := by rw [← hW2]; simp [go_sem]
    have k1 : W2.cell? ⟨w2.heap.size, 1, none⟩ = some (.slice none 0 0) := by rw [← hW2]; simp [go_sem]
    have hbW2 : Below w.heap.size w W2 := hbw2.trans (hb2'.mono (by omega))
    have hwW2 : w.heap.size < W2.heap.size := by omega
    have Hc3 := hide (rcheck_c aw ar cw cr ws rs w.heap.size W2 (hW.below hbW2) (hR.below hbW2) hUW hUR (by omega))
    generalize hAE : arenaE ws rs = AE at *
    have d0 : (AE != 0) = true := by simpa using hE
    have d1 : (AE == AE) = true := by simp
    have HW2 := hide hW2
    clear hAE hE hbw2 hW2
    go_wp2_with fail
    rw [unhide HW2]
    refine (unhide Hc3).mono ?_
    rintro e w4 ⟨he, hb4⟩
    subst he
    have hs4 := hb4.size
    have hbw4 : Below w.heap.size w w4 := hbW2.trans (hb4.mono (by omega))
    replace k0 := (hb4.cell (p := ⟨w2.heap.size, 0, none⟩) hs2').trans k0
    replace k1 := (hb4.cell (p := ⟨w2.heap.size, 1, none⟩) hs2').trans k1
    have hw4' : w2.heap.size < w4.heap.size := by omega
    have Hc7 : Hid (Calls Try.prog 9 #[.agg #[.slice none 0 0, .slice none 0 0], .agg #[.slice none 0 0, .slice none 0 0]] w4 fun e w' => e = .returned (.bool true) ∧ Below w4.heap.size w4 w') := by
      have := arenas_eq_c none none none none 0 0 0 0 [] [] [] [] w4.heap.size w4 (wds_nil rfl) (wds_nil rfl) (wds_nil rfl) (wds_nil rfl) (Nat.le_refl _)
      simp only [decide_true, Bool.and_self] at this
      exact this
    clear Hc3 hb4 HW2 hb2'
    go_wp2_with fail
    refine (unhide Hc7).mono ?_
    rintro e w7 ⟨he, hb7⟩
    subst he
    clear Hc7
    go_wp2
    go_ret
    exact ⟨rfl, hbw4.trans (hb7.mono (by omega))⟩
  · subst he
    have HA := hide hA
    have Hws := hide hws
    have HE := hide hE
    obtain ⟨W2, hW2⟩ : ∃ W2, w2.alloc (.cells #[.slice ba (slL hs fs rs).length bc, .slice ba' (slR fs rs).length bc'] 24) = W2 := ⟨_, rfl⟩
    have hb2' : Below w2.heap.size w2 W2 := by rw [← hW2]; exact (Below.refl _ w2).alloc (Nat.le_refl _) _
    have hs2' : w2.heap.size < W2.heap.size := by rw [← hW2]; simp
    have k0 : W2.cell? ⟨w2.heap.size, 0, none⟩ = some (.slice ba (slL hs fs rs).length bc) := by rw [← hW2]; simp [go_sem]
    have k1 : W2.cell? ⟨w2.heap.size, 1, none⟩ = some (.slice ba' (slR fs rs).length bc') := by rw [← hW2]; simp [go_sem]
    replace g0 := (hb2'.cell (p := ⟨w.heap.size, 0, none⟩) hl2).trans g0
    replace g1 := (hb2'.cell (p := ⟨w.heap.size, 1, none⟩) hl2).trans g1
    have hbW2 : Below w.heap.size w W2 := hbw2.trans (hb2'.mono (by omega))
    have hwW2 : w.heap.size < W2.heap.size := by omega
    have Hc3 := hide (rcheck_c aw ar cw cr ws rs w.heap.size W2 (hW.below hbW2) (hR.below hbW2) hUW hUR (by omega))
    rw [hE] at Hc3
    have HBL := hide ((hBL.below hb2').mono (Nat.le_of_lt hs2'))
    have HBR := hide ((hBR.below hb2').mono (Nat.le_of_lt hs2'))
    clear hA hws hE hBL hBR hbw2
    generalize hBLe : slL hs fs rs = BL at *
    generalize hBRe : slR fs rs = BR at *
    have HBLe := hide hBLe
    have HBRe := hide hBRe
    clear hBLe hBRe
    go_wp2_with fail
    refine (unhide Hc3).mono ?_
    rintro e w4 ⟨he, hb4⟩
    subst he
    have hs4 := hb4.size
    have hbw4 : Below w.heap.size w w4 := hbW2.trans (hb4.mono (by omega))
    replace g0 := (hb4.cell (p := ⟨w.heap.size, 0, none⟩) hwW2).trans g0
    replace g1 := (hb4.cell (p := ⟨w.heap.size, 1, none⟩) hwW2).trans g1
    replace k0 := (hb4.cell (p := ⟨w2.heap.size, 0, none⟩) hs2').trans k0
    replace k1 := (hb4.cell (p := ⟨w2.heap.size, 1, none⟩) hs2').trans k1
    have hw4 : w.heap.size < w4.heap.size := by omega
    have hw4' : w2.heap.size < w4.heap.size := by omega
    have HB4 := hide (((unhide HBL).below hb4).mono hs4)
    have HR4 := hide (((unhide HBR).below hb4).mono hs4)
    have Hc9 : Hid (Calls Try.prog 10 #[.agg #[.slice aw ws.length cw, .slice ar rs.length cr]] w4.drew fun e w' => RMk BL BR e w' ∧ Below w4.heap.size w4 w') := by
      have := rslide_c aw ar cw cr ws rs hs fs w.heap.size w4.drew (hW.below hbw4.drew) (hR.below hbw4.drew) hUW hUR (by show w.heap.size ≤ w4.heap.size; omega) (unhide HA) (unhide Hws)
      rw [unhide HBLe, unhide HBRe] at this
      refine this.mono ?_
      rintro e w' ⟨h1, h2⟩
      exact ⟨h1, (Below.refl _ w4).drew.trans h2⟩
    have Hc8 : Hid (∀ W xa xc ya yc, Below w4.heap.size w4 W → Wds W.heap.size W xa BL → Wds W.heap.size W ya BR → Calls Try.prog 9 #[.agg #[.slice ba BL.length bc, .slice ba' BR.length bc'], .agg #[.slice xa BL.length xc, .slice ya BR.length yc]] W fun e w' => e = .returned (.bool true) ∧ Below W.heap.size W w') := fun W xa xc ya yc hbW h1 h2 => by
      have := arenas_eq_c ba ba' xa ya bc bc' xc yc BL BR BL BR W.heap.size W (((unhide HB4).below hbW).mono hbW.size) (((unhide HR4).below hbW).mono hbW.size) h1 h2 (Nat.le_refl _)
      simp only [decide_true, Bool.and_self] at this
      exact this
    clear Hc3 hb4 hW2 hb2' HBL HBR HB4 HR4 HA Hws HBLe HBRe HE hW hR
    go_wp2
    go_region_with (first
      | (go_at_call 10; go_must (refine (unhide Hc9).mono ?_); go_must (rintro e w5 ⟨⟨xa, xc, ya, yc, he, hx, hy⟩, hb5⟩; subst he; have hs5 := hb5.size; have k05 := (hb5.cell (p := ⟨w2.heap.size, 0, none⟩) hw4').trans k0; have k15 := (hb5.cell (p := ⟨w2.heap.size, 1, none⟩) hw4').trans k1; have hl5 : w2.heap.size < w5.heap.size := Nat.lt_of_lt_of_le hw4' hs5; have Hca := hide (unhide Hc8 w5 xa xc ya yc hb5 hx hy); clear hx hy))
      | (go_at_call 9; go_must (refine (unhide Hca).mono ?_); go_must (rintro e w6 ⟨he, hb6⟩; subst he; have hb6' : Below w4.heap.size w4 w6 := hb5.trans (hb6.mono hs5))))
    all_goals
      go_wp2
      go_ret
      exact ⟨rfl, hbw4.trans (hb6'.mono (by omega))⟩

end Go.Proofs.Ytnbhciejlidnlaa

/- Walks: SlideSame. -/
namespace Go.Proofs.Ytnbhciejlidnlaa
set_option linter.unusedSimpArgs false
set_option linter.unusedVariables false
open Go.RowKit Go.Shelf

theorem arn_uniq {hs hs' : List Int} {fs fs' : List (List Int)} {rs rs' : List Int} (h : Arn hs fs rs) (h' : Arn hs' fs' rs') (e : joinW hs fs = joinW hs' fs') : hs = hs' ∧ fs = fs' := by
  have hf : fs = fs' := by
    have h1 := fit_split h.fit
    rw [e, fit_split h'.fit] at h1
    injection h1 with h1
    exact h1.symm
  subst hf
  refine ⟨?_, rfl⟩
  apply List.ext_getElem?
  intro k
  by_cases hk : k < fs.length
  · rw [← joinW_get hs fs k h.fit.len hk, e, joinW_get hs' fs k h'.fit.len hk]
  · rw [List.getElem?_eq_none (by have := h.fit.len; omega), List.getElem?_eq_none (by have := h'.fit.len; omega)]

set_option maxRecDepth 100000 in
set_option maxHeartbeats 8000000 in
theorem ssame_c (aw ar : Option Addr) (cw cr : Nat) (ws rs : List Int) (w : World) (hW : Wds w.heap.size w aw ws) (hR : Wds w.heap.size w ar rs) (hUW : U64 ws) (hUR : U64 rs) (hcap : ws.length ≤ cw) :
    Calls Try.prog 4 #[.agg #[.slice aw ws.length cw, .slice ar rs.length cr]] w fun e w' => e = .returned (.bool true) ∧ Below w.heap.size w w' := by
  obtain ⟨W1, hW1⟩ : ∃ W1, w.alloc (.cells #[.slice aw ws.length cw, .slice ar rs.length cr] 24) = W1 := ⟨_, rfl⟩
  have hb1 : Below w.heap.size w W1 := by rw [← hW1]; exact (Below.refl w.heap.size w).alloc (Nat.le_refl _) _
  have hs1 : w.heap.size < W1.heap.size := by rw [← hW1]; simp
  have g0 : W1.cell? ⟨w.heap.size, 0, none⟩ = some (.slice aw ws.length cw) := by rw [← hW1]; simp [go_sem]
  have g1 : W1.cell? ⟨w.heap.size, 1, none⟩ = some (.slice ar rs.length cr) := by rw [← hW1]; simp [go_sem]
  have Hc1 := hide (sound_c aw ar cw cr ws rs w.heap.size W1 (hW.below hb1) (hR.below hb1) hUW hUR (by omega))
  go_enter Try.func4, Try.ntmps4
  go_wp2_with fail
  refine (unhide Hc1).mono ?_
  rintro e w2 ⟨rfl, hb2⟩
  have hs2 := hb2.size
  have hbw2 : Below w.heap.size w w2 := hb1.trans (hb2.mono (by omega))
  replace g0 := (hb2.cell (p := ⟨w.heap.size, 0, none⟩) hs1).trans g0
  replace g1 := (hb2.cell (p := ⟨w.heap.size, 1, none⟩) hs1).trans g1
  have hl2 : w.heap.size < w2.heap.size := by omega
  clear hb1 hb2 Hc1 hW1
  by_cases hE : arenaE ws rs = 0
  · have d0 : (arenaE ws rs == 0) = true := by simp [hE]
    rw [d0]
    have HE := hide hE
    have Hc2 := hide (slide_c aw ar cw cr ws rs w.heap.size w2 (hW.below hbw2) (hR.below hbw2) hUW hUR (by omega) hcap)
    clear hE d0
    go_wp2_with fail
    refine (unhide Hc2).mono ?_
    rintro e w3 ⟨hres, hb3⟩
    rcases hres.use with ⟨hE', _⟩ | ⟨_, hs, fs, ba, bc, ba', bc', hA, hws, he, hBL, hBR, hBc⟩
    · exact absurd (unhide HE) hE'
    subst he
    have hs3 := hb3.size
    have hbw3 : Below w.heap.size w w3 := hbw2.trans (hb3.mono (by omega))
    obtain ⟨W3, hW3⟩ : ∃ W3, w3.alloc (.cells #[.slice ba (slL hs fs rs).length bc, .slice ba' (slR fs rs).length bc'] 24) = W3 := ⟨_, rfl⟩
    have hb3' : Below w3.heap.size w3 W3 := by rw [← hW3]; exact (Below.refl _ w3).alloc (Nat.le_refl _) _
    have hs3' : w3.heap.size < W3.heap.size := by rw [← hW3]; simp
    have k0 : W3.cell? ⟨w3.heap.size, 0, none⟩ = some (.slice ba (slL hs fs rs).length bc) := by rw [← hW3]; simp [go_sem]
    have k1 : W3.cell? ⟨w3.heap.size, 1, none⟩ = some (.slice ba' (slR fs rs).length bc') := by rw [← hW3]; simp [go_sem]
    replace g0 := (hb3'.cell (p := ⟨w.heap.size, 0, none⟩) (by simp; omega)).trans ((hb3.cell (p := ⟨w.heap.size, 0, none⟩) hl2).trans g0)
    replace g1 := (hb3'.cell (p := ⟨w.heap.size, 1, none⟩) (by simp; omega)).trans ((hb3.cell (p := ⟨w.heap.size, 1, none⟩) hl2).trans g1)
    have hbW3 : Below w.heap.size w W3 := hbw3.trans (hb3'.mono (by omega))
    have hBL3 := (hBL.below hb3').mono (Nat.le_of_lt hs3')
    have hBR3 := (hBR.below hb3').mono (Nat.le_of_lt hs3')
    have hA' : Arn (sH hs (rL fs rs)) (sF fs (rL fs rs)) (slR fs rs) := arn_slid hA (whole_rL hA)
    have hU' : U64 (slL hs fs rs) := joinW_u64 hA' hA'.fit
    have hl3 : w.heap.size < W3.heap.size := by omega
    have HA := hide hA
    have Hws := hide hws
    have hE2 : arenaE (slL hs fs rs) (slR fs rs) = 0 := hA'.check
    have HE2 := hide hE2
    have Hc3 := hide (slide_c ba ba' bc bc' (slL hs fs rs) (slR fs rs) W3.heap.size W3 hBL3 hBR3 hU' hA'.ur (Nat.le_refl _) hBc)
    have HcL : Hid (∀ X, Below W3.heap.size W3 X → Calls Try.prog 13 #[.agg #[.slice ba (slL hs fs rs).length bc, .slice ba' (slR fs rs).length bc'], .agg #[.slice aw ws.length cw, .slice ar rs.length cr]] X fun e w' => e = .returned (.bool true) ∧ Below X.heap.size X w') := by
      intro X hb
      have hbX : Below w.heap.size w X := hbW3.trans (hb.mono (by omega))
      exact left_c ba ba' aw ar bc bc' cw cr (slL hs fs rs) (slR fs rs) ws rs (sH hs (rL fs rs)) (sF fs (rL fs rs)) hs fs X.heap.size X ((hBL3.below hb).mono hb.size) ((hBR3.below hb).mono hb.size) ((hW.below hbX).mono hbX.size) ((hR.below hbX).mono hbX.size) (Nat.le_refl _) hA' rfl hA hws (slid_size hA) (slid_canon hA)
    have HA' := hide hA'
    have HBL3 := hide hBL3
    have HBR3 := hide hBR3
    clear hb3 hb3' hBL hBR hBL3 hBR3 hA hws hA' hU' hE2 hres Hc2 hW hR hUW hUR
    go_wp2_with fail
    refine (unhide Hc3).mono ?_
    rintro e w5 ⟨hres5, hb5⟩
    clear hW3
    rcases hres5.use with ⟨hE5, _⟩ | ⟨_, hs2, fs2, ca, cc, ca', cc', hA2, hws2, he, hCL, hCR, _⟩
    · exact absurd (unhide HE2) hE5
    subst he
    obtain ⟨rfl, rfl⟩ := arn_uniq hA2 (unhide HA') (hws2.symm.trans rfl)
    have hag := slid_again (unhide HA)
    rw [hag.1] at hCL
    rw [hag.2] at hCR
    rw [hag.1, hag.2]
    have hs5 := hb5.size
    obtain ⟨W5, hW5⟩ : ∃ W5, w5.alloc (.cells #[.slice ca (slL hs fs rs).length cc, .slice ca' (slR fs rs).length cc'] 24) = W5 := ⟨_, rfl⟩
    have hb5' : Below w5.heap.size w5 W5 := by rw [← hW5]; exact (Below.refl _ w5).alloc (Nat.le_refl _) _
    have hs5' : w5.heap.size < W5.heap.size := by rw [← hW5]; simp
    have c0 : W5.cell? ⟨w5.heap.size, 0, none⟩ = some (.slice ca (slL hs fs rs).length cc) := by rw [← hW5]; simp [go_sem]
    have c1 : W5.cell? ⟨w5.heap.size, 1, none⟩ = some (.slice ca' (slR fs rs).length cc') := by rw [← hW5]; simp [go_sem]
    have hb35 : Below W3.heap.size W3 W5 := hb5.trans (hb5'.mono hs5)
    replace g0 := (hb35.cell (p := ⟨w.heap.size, 0, none⟩) hl3).trans g0
    replace g1 := (hb35.cell (p := ⟨w.heap.size, 1, none⟩) hl3).trans g1
    replace k0 := (hb35.cell (p := ⟨w3.heap.size, 0, none⟩) hs3').trans k0
    replace k1 := (hb35.cell (p := ⟨w3.heap.size, 1, none⟩) hs3').trans k1
    have hl5 : w.heap.size < W5.heap.size := by omega
    have hl5' : w3.heap.size < W5.heap.size := by omega
    have hbW5 : Below w.heap.size w W5 := hbW3.trans (hb35.mono (by omega))
    have HcL5 := hide (unhide HcL W5 hb35)
    have HCL := hide ((hCL.below hb5').mono (B' := W5.heap.size) (by omega))
    have HCR := hide ((hCR.below hb5').mono (B' := W5.heap.size) (by omega))
    have HBL5 := hide (((unhide HBL3).below hb35).mono hb35.size)
    have HBR5 := hide (((unhide HBR3).below hb35).mono hb35.size)
    clear hCL hCR hb5 hb5' hres5 Hc3 HcL hag hA2 hws2 HA' HA Hws HBL3 HBR3 HE2
    generalize slL hs fs rs = BL at *
    generalize slR fs rs = BR at *
    go_wp2_with fail
    refine (unhide HcL5).mono ?_
    rintro e w6 ⟨he, hb6⟩
    subst he
    have hs6 := hb6.size
    clear hW5 HcL5
    replace k0 := (hb6.cell (p := ⟨w3.heap.size, 0, none⟩) hl5').trans k0
    replace k1 := (hb6.cell (p := ⟨w3.heap.size, 1, none⟩) hl5').trans k1
    replace c0 := (hb6.cell (p := ⟨w5.heap.size, 0, none⟩) hs5').trans c0
    replace c1 := (hb6.cell (p := ⟨w5.heap.size, 1, none⟩) hs5').trans c1
    have hl6 : w3.heap.size < w6.heap.size := by omega
    have hl6' : w5.heap.size < w6.heap.size := by omega
    have Hca : Hid (Calls Try.prog 9 #[.agg #[.slice ba BL.length bc, .slice ba' BR.length bc'], .agg #[.slice ca BL.length cc, .slice ca' BR.length cc']] w6 fun e w' => e = .returned (.bool true) ∧ Below w6.heap.size w6 w') := by
      have := arenas_eq_c ba ba' ca ca' bc bc' cc cc' BL BR BL BR w6.heap.size w6 (((unhide HBL5).below hb6).mono hs6) (((unhide HBR5).below hb6).mono hs6) (((unhide HCL).below hb6).mono hs6) (((unhide HCR).below hb6).mono hs6) (Nat.le_refl _)
      simp only [decide_true, Bool.and_self] at this
      exact this
    have hbw6 : Below w.heap.size w w6 := hbW5.trans (hb6.mono (by omega))
    clear hb6 HBL5 HBR5 HCL HCR
    go_wp2_with fail
    refine (unhide Hca).mono ?_
    rintro e w7 ⟨he, hb7⟩
    subst he
    clear Hca
    go_wp2
    go_ret
    exact ⟨rfl, hbw6.trans (hb7.mono (by omega))⟩
  · have d0 : (arenaE ws rs == 0) = false := by simp [hE]
    have HE := hide hE
    rw [d0]
    have Hc2 := hide (unsound_c aw ar cw cr ws rs w.heap.size w2 (hW.below hbw2) (hR.below hbw2) hUW hUR (by omega) hcap)
    clear hE
    go_wp2_with fail
    refine (unhide Hc2).mono ?_
    rintro e w3 ⟨he, hb3⟩
    have d3 : (arenaE ws rs != 0) = true := by simpa using unhide HE
    rw [d3] at he
    subst he
    go_wp2
    go_ret
    exact ⟨rfl, hbw2.trans (hb3.mono (by omega))⟩

end Go.Proofs.Ytnbhciejlidnlaa

/- Walks: SlideMoves. -/
namespace Go.Proofs.Ytnbhciejlidnlaa
set_option linter.unusedSimpArgs false
set_option linter.unusedVariables false
open Go.RowKit Go.Shelf

theorem CpRes.use {base : Nat} {ws rs : List Int} {e : Ending} {W : World} (h : CpRes base ws rs e W) : (arenaE ws rs ≠ 0 ∧ e = .returned (.tuple #[.agg #[.slice none 0 0, .slice none 0 0], .int .i64 (arenaE ws rs)])) ∨
    (arenaE ws rs = 0 ∧ ∃ hs fs a c a' c', Arn hs fs rs ∧ ws = joinW hs fs ∧ e = .returned (.tuple #[.agg #[.slice a (mvL hs fs rs).length c, .slice a' (mvR fs rs).length c'], .int .i64 0]) ∧ Wds W.heap.size W a (mvL hs fs rs) ∧ Wds W.heap.size W a' (mvR fs rs)) := by
  rcases h with h | ⟨hE, hs, fs, a, c, a', c', h1, h2, h3, h4, h5, h6⟩
  · exact .inl h
  · exact .inr ⟨hE, hs, fs, a, c, a', c', h1, h2, by rw [h3]; simp [mvR], h4.1, h6.1⟩

theorem mvL_len (hs : List Int) (fs : List (List Int)) (rs : List Int) : (mvL hs fs rs).length = tot (mF fs rs) := by
  rw [mvL_eq]; exact joinW_len _ _ (by rw [mH_len, mF_len])

set_option maxRecDepth 100000 in
set_option maxHeartbeats 8000000 in
theorem smoves_c (aw ar : Option Addr) (cw cr : Nat) (ws rs : List Int) (w : World) (hW : Wds w.heap.size w aw ws) (hR : Wds w.heap.size w ar rs) (hUW : U64 ws) (hUR : U64 rs) (hcap : ws.length ≤ cw) :
    Calls Try.prog 6 #[.agg #[.slice aw ws.length cw, .slice ar rs.length cr]] w fun e w' => e = .returned (.bool true) ∧ Below w.heap.size w w' := by
  obtain ⟨W1, hW1⟩ : ∃ W1, w.alloc (.cells #[.slice aw ws.length cw, .slice ar rs.length cr] 24) = W1 := ⟨_, rfl⟩
  have hb1 : Below w.heap.size w W1 := by rw [← hW1]; exact (Below.refl w.heap.size w).alloc (Nat.le_refl _) _
  have hs1 : w.heap.size < W1.heap.size := by rw [← hW1]; simp
  have g0 : W1.cell? ⟨w.heap.size, 0, none⟩ = some (.slice aw ws.length cw) := by rw [← hW1]; simp [go_sem]
  have g1 : W1.cell? ⟨w.heap.size, 1, none⟩ = some (.slice ar rs.length cr) := by rw [← hW1]; simp [go_sem]
  have Hc1 := hide (sound_c aw ar cw cr ws rs w.heap.size W1 (hW.below hb1) (hR.below hb1) hUW hUR (by omega))
  go_enter Try.func6, Try.ntmps6
  go_wp2_with fail
  refine (unhide Hc1).mono ?_
  rintro e w2 ⟨rfl, hb2⟩
  have hs2 := hb2.size
  have hbw2 : Below w.heap.size w w2 := hb1.trans (hb2.mono (by omega))
  replace g0 := (hb2.cell (p := ⟨w.heap.size, 0, none⟩) hs1).trans g0
  replace g1 := (hb2.cell (p := ⟨w.heap.size, 1, none⟩) hs1).trans g1
  have hl2 : w.heap.size < w2.heap.size := by omega
  clear hb1 hb2 Hc1 hW1
  by_cases hE : arenaE ws rs = 0
  · have d0 : (arenaE ws rs == 0) = true := by simp [hE]
    rw [d0]
    have HE := hide hE
    have Hc2 := hide (slide_c aw ar cw cr ws rs w.heap.size w2 (hW.below hbw2) (hR.below hbw2) hUW hUR (by omega) hcap)
    clear hE d0
    go_wp2_with fail
    refine (unhide Hc2).mono ?_
    rintro e w3 ⟨hres, hb3⟩
    rcases hres.use with ⟨hE', _⟩ | ⟨_, hs, fs, ba, bc, ba', bc', hA, hws, he, hBL, hBR, hBc⟩
    · exact absurd (unhide HE) hE'
    subst he
    have hs3 := hb3.size
    have hbw3 : Below w.heap.size w w3 := hbw2.trans (hb3.mono (by omega))
    obtain ⟨W3, hW3⟩ : ∃ W3, w3.alloc (.cells #[.slice ba (slL hs fs rs).length bc, .slice ba' (slR fs rs).length bc'] 24) = W3 := ⟨_, rfl⟩
    have hb3' : Below w3.heap.size w3 W3 := by rw [← hW3]; exact (Below.refl _ w3).alloc (Nat.le_refl _) _
    have hs3' : w3.heap.size < W3.heap.size := by rw [← hW3]; simp
    have k0 : W3.cell? ⟨w3.heap.size, 0, none⟩ = some (.slice ba (slL hs fs rs).length bc) := by rw [← hW3]; simp [go_sem]
    have k1 : W3.cell? ⟨w3.heap.size, 1, none⟩ = some (.slice ba' (slR fs rs).length bc') := by rw [← hW3]; simp [go_sem]
    replace g0 := (hb3'.cell (p := ⟨w.heap.size, 0, none⟩) (by simp; omega)).trans ((hb3.cell (p := ⟨w.heap.size, 0, none⟩) hl2).trans g0)
    replace g1 := (hb3'.cell (p := ⟨w.heap.size, 1, none⟩) (by simp; omega)).trans ((hb3.cell (p := ⟨w.heap.size, 1, none⟩) hl2).trans g1)
    have hbW3 : Below w.heap.size w W3 := hbw3.trans (hb3'.mono (by omega))
    have hBL3 := (hBL.below hb3').mono (Nat.le_of_lt hs3')
    have hBR3 := (hBR.below hb3').mono (Nat.le_of_lt hs3')
    have hA' : Arn (sH hs (rL fs rs)) (sF fs (rL fs rs)) (slR fs rs) := arn_slid hA (whole_rL hA)
    have hU' : U64 (slL hs fs rs) := joinW_u64 hA' hA'.fit
    have hl3 : w.heap.size < W3.heap.size := by omega
    have HA := hide hA
    have Hws := hide hws
    have hE2 : arenaE (slL hs fs rs) (slR fs rs) = 0 := hA'.check
    have HE2 := hide hE2
    have Hc3 := hide (copy_c ba ba' bc bc' (slL hs fs rs) (slR fs rs) W3.heap.size W3 hBL3 hBR3 hU' hA'.ur (Nat.le_refl _) hBc)
    have HA' := hide hA'
    have HW := hide hW
    have HR := hide hR
    have HUW := hide hUW
    have HUR := hide hUR
    clear hb3 hb3' hBL hBR hBL3 hBR3 hA hws hA' hU' hE2 hres Hc2 hW hR hUW hUR
    go_wp2_with fail
    refine (unhide Hc3).mono ?_
    rintro e w5 ⟨hres5, hb5⟩
    clear hW3
    rcases hres5.use with ⟨hE5, _⟩ | ⟨_, hs2, fs2, ca, cc, ca', cc', hA2, hws2, he, hCL, hCR⟩
    · exact absurd (unhide HE2) hE5
    subst he
    obtain ⟨rfl, rfl⟩ := arn_uniq hA2 (unhide HA') (hws2.symm.trans rfl)
    have hag := slid_moved (unhide HA)
    rw [hag.1] at hCL
    rw [hag.2] at hCR
    rw [hag.1, hag.2]
    have hs5 := hb5.size
    obtain ⟨W5, hW5⟩ : ∃ W5, w5.alloc (.cells #[.slice ca (mvL hs fs rs).length cc, .slice ca' (mvR fs rs).length cc'] 24) = W5 := ⟨_, rfl⟩
    have hb5' : Below w5.heap.size w5 W5 := by rw [← hW5]; exact (Below.refl _ w5).alloc (Nat.le_refl _) _
    have hs5' : w5.heap.size < W5.heap.size := by rw [← hW5]; simp
    have c0 : W5.cell? ⟨w5.heap.size, 0, none⟩ = some (.slice ca (mvL hs fs rs).length cc) := by rw [← hW5]; simp [go_sem]
    have c1 : W5.cell? ⟨w5.heap.size, 1, none⟩ = some (.slice ca' (mvR fs rs).length cc') := by rw [← hW5]; simp [go_sem]
    have hb35 : Below W3.heap.size W3 W5 := hb5.trans (hb5'.mono hs5)
    replace g0 := (hb35.cell (p := ⟨w.heap.size, 0, none⟩) hl3).trans g0
    replace g1 := (hb35.cell (p := ⟨w.heap.size, 1, none⟩) hl3).trans g1
    have hl5 : w.heap.size < W5.heap.size := by omega
    have hbW5 : Below w.heap.size w W5 := hbW3.trans (hb35.mono (by omega))
    have HCL := hide ((hCL.below hb5').mono (B' := W5.heap.size) (by omega))
    have HCR := hide ((hCR.below hb5').mono (B' := W5.heap.size) (by omega))
    have Hc5 := hide (copy_c aw ar cw cr ws rs w.heap.size W5 ((unhide HW).below hbW5) ((unhide HR).below hbW5) (unhide HUW) (unhide HUR) (by omega) hcap)
    clear hCL hCR hb5 hb5' hres5 Hc3 hag hA2 hws2 HA' HE2 k0 k1
    go_wp2_with fail
    refine (unhide Hc5).mono ?_
    rintro e w7 ⟨hres7, hb7⟩
    clear hW5
    rcases hres7.use with ⟨hE7, _⟩ | ⟨_, hs2, fs2, da, dc, da', dc', hA2, hws2, he, hDL, hDR⟩
    · exact absurd (unhide HE) hE7
    subst he
    obtain ⟨rfl, rfl⟩ := arn_uniq hA2 (unhide HA) (hws2.symm.trans (unhide Hws))
    have hs7 := hb7.size
    obtain ⟨W7, hW7⟩ : ∃ W7, w7.alloc (.cells #[.slice da (mvL hs2 fs2 rs).length dc, .slice da' (mvR fs2 rs).length dc'] 24) = W7 := ⟨_, rfl⟩
    have hb7' : Below w7.heap.size w7 W7 := by rw [← hW7]; exact (Below.refl _ w7).alloc (Nat.le_refl _) _
    have hs7' : w7.heap.size < W7.heap.size := by rw [← hW7]; simp
    have d0 : W7.cell? ⟨w7.heap.size, 0, none⟩ = some (.slice da (mvL hs2 fs2 rs).length dc) := by rw [← hW7]; simp [go_sem]
    have d1 : W7.cell? ⟨w7.heap.size, 1, none⟩ = some (.slice da' (mvR fs2 rs).length dc') := by rw [← hW7]; simp [go_sem]
    have hb57 : Below W5.heap.size W5 W7 := hb7.trans (hb7'.mono hs7)
    replace g0 := (hb57.cell (p := ⟨w.heap.size, 0, none⟩) hl5).trans g0
    replace g1 := (hb57.cell (p := ⟨w.heap.size, 1, none⟩) hl5).trans g1
    replace c0 := (hb57.cell (p := ⟨w5.heap.size, 0, none⟩) hs5').trans c0
    replace c1 := (hb57.cell (p := ⟨w5.heap.size, 1, none⟩) hs5').trans c1
    have hl7 : w.heap.size < W7.heap.size := by omega
    have hl7' : w5.heap.size < W7.heap.size := by omega
    have hbW7 : Below w.heap.size w W7 := hbW5.trans (hb57.mono (by omega))
    have HcZ : Hid (∀ X, Below W7.heap.size W7 X → Calls Try.prog 19 #[.agg #[.slice aw ws.length cw, .slice ar rs.length cr]] X fun e w' => e = .returned (.int .i64 ((mvL hs2 fs2 rs).length : Nat)) ∧ Below X.heap.size X w') := by
      intro X hb
      have hbX : Below w.heap.size w X := hbW7.trans (hb.mono (by omega))
      refine (size_c aw ar cw cr ws rs hs2 fs2 w.heap.size X ((unhide HW).below hbX) ((unhide HR).below hbX) (unhide HUW) (unhide HUR) hbX.size hA2 hws2).mono ?_
      rintro e w' ⟨rfl, h⟩
      exact ⟨by rw [mvL_len], h⟩
    have hDL7 := (hDL.below hb7').mono (B' := W7.heap.size) (by omega)
    have hDR7 := (hDR.below hb7').mono (B' := W7.heap.size) (by omega)
    have hCL7 := ((unhide HCL).below hb57).mono (B' := W7.heap.size) (by omega)
    have hCR7 := ((unhide HCR).below hb57).mono (B' := W7.heap.size) (by omega)
    have HcA : Hid (∀ X, Below W7.heap.size W7 X → Calls Try.prog 9 #[.agg #[.slice ca (mvL hs2 fs2 rs).length cc, .slice ca' (mvR fs2 rs).length cc'], .agg #[.slice da (mvL hs2 fs2 rs).length dc, .slice da' (mvR fs2 rs).length dc']] X fun e w' => e = .returned (.bool true) ∧ Below X.heap.size X w') := by
      intro X hb
      refine (arenas_eq_c ca ca' da da' cc cc' dc dc' (mvL hs2 fs2 rs) (mvR fs2 rs) (mvL hs2 fs2 rs) (mvR fs2 rs) X.heap.size X ((hCL7.below hb).mono hb.size) ((hCR7.below hb).mono hb.size) ((hDL7.below hb).mono hb.size) ((hDR7.below hb).mono hb.size) (Nat.le_refl _)).mono ?_
      rintro e w' ⟨rfl, h⟩
      exact ⟨by simp, h⟩
    clear hDL hDR hDL7 hDR7 hCL7 hCR7 HCL HCR hb7 hb7' hres7 Hc5 HA Hws HW HR HUW HUR HE hA2 hws2
    generalize mvL hs2 fs2 rs = BL at *
    generalize mvR fs2 rs = BR at *
    have dn : ((BL.length : Int) == (BL.length : Int)) = true := by simp
    have HW7 := hide hW7
    clear hW7
    go_wp2_with fail
    rw [unhide HW7]
    clear HW7
    have G0 := cell_regrown c0
    have G1 := cell_regrown c1
    have G2 := cell_regrown g0
    have G3 := cell_regrown g1
    have G4 := cell_regrown d0
    have G5 := cell_regrown d1
    clear c0 c1 g0 g1 d0 d1
    refine wp_region_quiet_below (by kernel_rfl) (by kernel_rfl) ?_
    repeat (go_big_quiet_step (first | exact Calls.regrown_of (unhide HcZ _ (below_regrown W7 _ _)) | exact Calls.regrown_of (unhide HcA _ (below_regrown W7 _ _))))
    refine wpQuiet_nil ?_
    intro _ hw'
    obtain ⟨⟨dq, osq⟩, hw''⟩ := hw'
    subst hw''
    have hb8 := below_regrown W7 dq osq
    clear G0 G1 G2 G3 G4 G5 HcA HcZ
    generalize Go.Sort.grow (redrawn W7 dq) osq = w8 at *
    go_wp2
    go_ret
    exact ⟨rfl, hbW7.trans (hb8.mono (by omega))⟩
  · have d0 : (arenaE ws rs == 0) = false := by simp [hE]
    have HE := hide hE
    rw [d0]
    have Hc2 := hide (unsound_c aw ar cw cr ws rs w.heap.size w2 (hW.below hbw2) (hR.below hbw2) hUW hUR (by omega) hcap)
    clear hE
    go_wp2_with fail
    refine (unhide Hc2).mono ?_
    rintro e w3 ⟨he, hb3⟩
    have d3 : (arenaE ws rs != 0) = true := by simpa using unhide HE
    rw [d3] at he
    subst he
    go_wp2
    go_ret
    exact ⟨rfl, hbw2.trans (hb3.mono (by omega))⟩

end Go.Proofs.Ytnbhciejlidnlaa

/- Walks: SlideOrders. -/
namespace Go.Proofs.Ytnbhciejlidnlaa
set_option linter.unusedSimpArgs false
set_option linter.unusedVariables false
open Go.RowKit Go.Shelf

theorem hdr_alloc {w w' : World} {a b c : Value} (hb : Below (w.alloc (.cells #[a, b, c] 42)).drew.heap.size (w.alloc (.cells #[a, b, c] 42)).drew w') :
    w'.cell? ⟨w.heap.size, 0, none⟩ = some a ∧ w'.cell? ⟨w.heap.size, 1, none⟩ = some b ∧ w'.cell? ⟨w.heap.size, 2, none⟩ = some c ∧ (∀ j, w'.frozen? ⟨w.heap.size, j, none⟩ = false) ∧ w.heap.size < w'.heap.size ∧ Below w.heap.size w w' := by
  have hl : w.heap.size < (w.alloc (.cells #[a, b, c] 42)).drew.heap.size := by show w.heap.size < (w.alloc (.cells #[a, b, c] 42)).heap.size; simp
  refine ⟨(hb.cell (p := ⟨w.heap.size, 0, none⟩) hl).trans (by simp [go_sem]), (hb.cell (p := ⟨w.heap.size, 1, none⟩) hl).trans (by simp [go_sem]), (hb.cell (p := ⟨w.heap.size, 2, none⟩) hl).trans (by simp [go_sem]), fun j => (hb.frozen (p := ⟨w.heap.size, j, none⟩) hl).trans (by simp [go_sem]), Nat.lt_of_lt_of_le hl hb.size, ?_⟩
  exact ((Below.refl _ _).alloc (Nat.le_refl _) _).drew.trans (hb.mono (Nat.le_of_lt hl))

/-- What SlideOrders looks at, of the k-th object that is left. -/
def OrAt (ws BL ST NW R : List Int) (k : Nat) : Prop :=
  ∃ (i p q : Nat) (x : Int), R[k]? = some (i : Int) ∧ ST[i]? = some (p : Int) ∧ NW[k]? = some (q : Int) ∧ ws[p]? = some x ∧ BL[q]? = some (reh false x) ∧ 0 ≤ x ∧ x < 18446744073709551616 ∧ q ≤ p ∧ p < 256

theorem or_at {hs : List Int} {fs : List (List Int)} {rs : List Int} (h : Arn hs fs rs) {k : Nat} (hk : k < (rL fs rs).length) : OrAt (joinW hs fs) (slL hs fs rs) (stF 0 fs) (stF 0 (sF fs (rL fs rs))) (rL fs rs) k := by
  have hOk := (whole_rL h).ok
  have hr := hOk.rng _ (List.getElem_mem hk)
  obtain ⟨i, hi⟩ := Int.eq_ofNat_of_zero_le hr.1
  have hil : i < fs.length := by omega
  obtain ⟨x, hx, hx1, hx2, hx3, hx4⟩ := fit_at h.fit hil
  have hpl := place_lt hil
  have h256 := h.n256
  have hRk : (rL fs rs)[k]? = some (i : Int) := by rw [List.getElem?_eq_getElem hk, hi]
  refine ⟨i, tot (fs.take i), tot ((sF fs (rL fs rs)).take k), x, hRk, ?_, ?_, ?_, ?_, hx3, hx4, ?_, by omega⟩
  · have := stF_get fs 0 i hil; rwa [Nat.zero_add] at this
  · have := stF_get (sF fs (rL fs rs)) 0 k (by rw [sF_len]; exact hk); rwa [Nat.zero_add] at this
  · rw [joinW_get _ _ _ h.fit.len hil]; exact hx
  · unfold slL
    rw [joinW_get _ _ _ (by rw [sH_len, sF_len]) (by rw [sF_len]; exact hk)]
    unfold sH
    rw [List.getElem?_map, hRk]
    simp [rO, List.getD_eq_getElem?_getD, hx]
  · have hlt : ∀ o ∈ (rL fs rs).take k, 0 ≤ o ∧ o < (i : Int) := by
      intro o ho
      obtain ⟨j, hj, e⟩ := List.mem_take_iff_getElem.1 ho
      have hjk : j < k := by omega
      have hp := List.pairwise_iff_getElem.1 (rL_sorted fs rs) j k (by omega) hk hjk
      refine ⟨(hOk.rng o (List.mem_of_mem_take ho)).1, ?_⟩
      rw [hi, e] at hp
      exact hp
    have e1 : tot ((sF fs (rL fs rs)).take k) = tot (((rL fs rs).take k).map (fO (fs.take i))) := by
      unfold sF tot
      rw [← List.map_take, List.map_map, List.map_map]
      congr 1
      apply List.map_congr_left
      intro o ho
      have hb := hlt o ho
      have e2 : fO (fs.take i) o = fO fs o := by
        unfold fO
        rw [List.getD_eq_getElem?_getD, List.getD_eq_getElem?_getD, List.getElem?_take, if_pos (by omega)]
      simp [e2]
    rw [e1]
    refine OOk.tot_le ⟨?_, fun o ho => ?_⟩
    · exact hOk.nd.sublist (List.take_sublist _ _)
    · have := hlt o ho
      rw [List.length_take]
      omega

set_option maxRecDepth 100000 in
set_option maxHeartbeats 8000000 in
theorem sorders_c (aw ar : Option Addr) (cw cr : Nat) (ws rs : List Int) (w : World) (hW : Wds w.heap.size w aw ws) (hR : Wds w.heap.size w ar rs) (hUW : U64 ws) (hUR : U64 rs) (hcap : ws.length ≤ cw) :
    Calls Try.prog 5 #[.agg #[.slice aw ws.length cw, .slice ar rs.length cr]] w fun e w' => e = .returned (.bool true) ∧ Below w.heap.size w w' := by
  obtain ⟨W1, hW1⟩ : ∃ W1, w.alloc (.cells #[.slice aw ws.length cw, .slice ar rs.length cr] 24) = W1 := ⟨_, rfl⟩
  have hb1 : Below w.heap.size w W1 := by rw [← hW1]; exact (Below.refl w.heap.size w).alloc (Nat.le_refl _) _
  have hs1 : w.heap.size < W1.heap.size := by rw [← hW1]; simp
  have g0 : W1.cell? ⟨w.heap.size, 0, none⟩ = some (.slice aw ws.length cw) := by rw [← hW1]; simp [go_sem]
  have g1 : W1.cell? ⟨w.heap.size, 1, none⟩ = some (.slice ar rs.length cr) := by rw [← hW1]; simp [go_sem]
  have Hc1 := hide (sound_c aw ar cw cr ws rs w.heap.size W1 (hW.below hb1) (hR.below hb1) hUW hUR (by omega))
  go_enter Try.func5, Try.ntmps5
  go_wp2_with fail
  refine (unhide Hc1).mono ?_
  rintro e w2 ⟨rfl, hb2⟩
  have hs2 := hb2.size
  have hbw2 : Below w.heap.size w w2 := hb1.trans (hb2.mono (by omega))
  replace g0 := (hb2.cell (p := ⟨w.heap.size, 0, none⟩) hs1).trans g0
  replace g1 := (hb2.cell (p := ⟨w.heap.size, 1, none⟩) hs1).trans g1
  have hl2 : w.heap.size < w2.heap.size := by omega
  clear hb1 hb2 Hc1 hW1
  by_cases hE : arenaE ws rs = 0
  · have d0 : (arenaE ws rs == 0) = true := by simp [hE]
    rw [d0]
    have HE := hide hE
    have Hc2 := hide (slide_c aw ar cw cr ws rs w.heap.size w2 (hW.below hbw2) (hR.below hbw2) hUW hUR (by omega) hcap)
    clear hE d0
    go_wp2_with fail
    refine (unhide Hc2).mono ?_
    rintro e w3 ⟨hres, hb3⟩
    rcases hres.use with ⟨hE', _⟩ | ⟨_, hs, fs, ba, bc, ba', bc', hA, hws, he, hBL, hBR, hBc⟩
    · exact absurd (unhide HE) hE'
    subst he
    have hs3 := hb3.size
    have hbw3 : Below w.heap.size w w3 := hbw2.trans (hb3.mono (by omega))
    obtain ⟨W3, hW3⟩ : ∃ W3, w3.alloc (.cells #[.slice ba (slL hs fs rs).length bc, .slice ba' (slR fs rs).length bc'] 24) = W3 := ⟨_, rfl⟩
    have hb3' : Below w3.heap.size w3 W3 := by rw [← hW3]; exact (Below.refl _ w3).alloc (Nat.le_refl _) _
    have hs3' : w3.heap.size < W3.heap.size := by rw [← hW3]; simp
    have k0 : W3.cell? ⟨w3.heap.size, 0, none⟩ = some (.slice ba (slL hs fs rs).length bc) := by rw [← hW3]; simp [go_sem]
    have k1 : W3.cell? ⟨w3.heap.size, 1, none⟩ = some (.slice ba' (slR fs rs).length bc') := by rw [← hW3]; simp [go_sem]
    replace g0 := (hb3'.cell (p := ⟨w.heap.size, 0, none⟩) (by simp; omega)).trans ((hb3.cell (p := ⟨w.heap.size, 0, none⟩) hl2).trans g0)
    replace g1 := (hb3'.cell (p := ⟨w.heap.size, 1, none⟩) (by simp; omega)).trans ((hb3.cell (p := ⟨w.heap.size, 1, none⟩) hl2).trans g1)
    have hbW3 : Below w.heap.size w W3 := hbw3.trans (hb3'.mono (by omega))
    have hBL3 := (hBL.below hb3').mono (Nat.le_of_lt hs3')
    have hBR3 := (hBR.below hb3').mono (Nat.le_of_lt hs3')
    have hA' : Arn (sH hs (rL fs rs)) (sF fs (rL fs rs)) (slR fs rs) := arn_slid hA (whole_rL hA)
    have hU' : U64 (slL hs fs rs) := joinW_u64 hA' hA'.fit
    have hl3 : w.heap.size < W3.heap.size := by omega
    have HA := hide hA
    have Hws := hide hws
    have hLn : (stF 0 (sF fs (rL fs rs))).length = (rL fs rs).length := by rw [stF_len, sF_len]
    have Hor : Hid (∀ k, k < (rL fs rs).length → OrAt ws (slL hs fs rs) (stF 0 fs) (stF 0 (sF fs (rL fs rs))) (rL fs rs) k) := fun k hk => by rw [hws]; exact or_at hA hk
    have Hsp : Hid (splitR ws = some fs) := by show _ = _; rw [hws]; exact fit_split hA.fit
    have Hsp' : Hid (splitR (slL hs fs rs) = some (sF fs (rL fs rs))) := fit_split hA'.fit
    have h256 : ws.length ≤ 256 := by rw [hws, joinW_len _ _ hA.fit.len]; exact hA.n256
    have h256' : (slL hs fs rs).length ≤ 256 := by rw [slL_len hA]; exact sF_256 hA (whole_rL hA)
    have h8 := hA.n8
    have HG := hide (good_read hA)
    have hE2 : arenaE (slL hs fs rs) (slR fs rs) = 0 := hA'.check
    have Hc3 := hide (sound_c ba ba' bc bc' (slL hs fs rs) (slR fs rs) W3.heap.size W3 hBL3 hBR3 hU' hA'.ur (Nat.le_refl _))
    rw [hE2] at Hc3
    have HBL := hide hBL3
    have HU' := hide hU'
    have HW := hide hW
    have HR := hide hR
    clear hb3 hb3' hBL hBR hBL3 hBR3 hA hws hA' hU' hE2 hres Hc2 hW hR HA Hws
    go_wp2_with fail
    refine (unhide Hc3).mono ?_
    rintro e w4 ⟨he, hb4⟩
    subst he
    clear hW3 Hc3
    have hs4 := hb4.size
    replace g0 := (hb4.cell (p := ⟨w.heap.size, 0, none⟩) hl3).trans g0
    replace g1 := (hb4.cell (p := ⟨w.heap.size, 1, none⟩) hl3).trans g1
    replace k0 := (hb4.cell (p := ⟨w3.heap.size, 0, none⟩) hs3').trans k0
    replace k1 := (hb4.cell (p := ⟨w3.heap.size, 1, none⟩) hs3').trans k1
    have hbw4 : Below w.heap.size w w4 := hbW3.trans (hb4.mono (by omega))
    have hl4 : w.heap.size < w4.heap.size := by omega
    have hl4' : w3.heap.size < w4.heap.size := by omega
    replace HBL := hide (((unhide HBL).below hb4).mono hs4)
    have Hc5 := hide (rstarts_c aw cw ws w.heap.size w4 ((unhide HW).below hbw4) hUW (by omega) h256)
    have dz : ((0 : Int) == 0) = true := by simp
    clear hb4
    go_wp2_with fail
    refine (unhide Hc5).mono ?_
    rintro e w5 ⟨hres, hb5⟩
    obtain ⟨fs', sa, sc, hfs', he, hI5⟩ := hres.resolve_left (fun h => by have := unhide Hsp; rw [h.1] at this; cases this)
    obtain rfl : fs' = fs := by have := unhide Hsp; rw [hfs'] at this; injection this
    subst he
    have hs5 := hb5.size
    replace g0 := (hb5.cell (p := ⟨w.heap.size, 0, none⟩) hl4).trans g0
    replace g1 := (hb5.cell (p := ⟨w.heap.size, 1, none⟩) hl4).trans g1
    replace k0 := (hb5.cell (p := ⟨w3.heap.size, 0, none⟩) hl4').trans k0
    replace k1 := (hb5.cell (p := ⟨w3.heap.size, 1, none⟩) hl4').trans k1
    have hbw5 : Below w.heap.size w w5 := hbw4.trans (hb5.mono (by omega))
    have hl5 : w.heap.size < w5.heap.size := by omega
    have hl5' : w3.heap.size < w5.heap.size := by omega
    replace HBL := hide (((unhide HBL).below hb5).mono hs5)
    have HI5 := hide hI5
    have Hc6 := hide (rstarts_c ba bc (slL hs fs' rs) w5.heap.size w5 (unhide HBL) (unhide HU') (Nat.le_refl _) h256')
    clear Hc5 hres hfs' hI5 hb5
    go_wp2_with fail
    refine (unhide Hc6).mono ?_
    rintro e w6 ⟨hres, hb6⟩
    obtain ⟨fs2, na, nc, hfs2, he, hI6⟩ := hres.resolve_left (fun h => by have := unhide Hsp'; rw [h.1] at this; cases this)
    obtain rfl : fs2 = sF fs' (rL fs' rs) := by have := unhide Hsp'; rw [hfs2] at this; injection this
    subst he
    have hs6 := hb6.size
    replace g0 := (hb6.cell (p := ⟨w.heap.size, 0, none⟩) hl5).trans g0
    replace g1 := (hb6.cell (p := ⟨w.heap.size, 1, none⟩) hl5).trans g1
    replace k0 := (hb6.cell (p := ⟨w3.heap.size, 0, none⟩) hl5').trans k0
    replace k1 := (hb6.cell (p := ⟨w3.heap.size, 1, none⟩) hl5').trans k1
    have hbw6 : Below w.heap.size w w6 := hbw5.trans (hb6.mono (by omega))
    have hl6 : w.heap.size < w6.heap.size := by omega
    have hl6' : w3.heap.size < w6.heap.size := by omega
    replace HBL := hide (((unhide HBL).below hb6).mono hs6)
    replace HI5 := hide (((unhide HI5).below hb6).mono hs6)
    have HI6 := hide hI6
    have Hc7 := hide (rread_c aw ar cw cr ws rs fs' w.heap.size w6 ((unhide HW).below hbw6) ((unhide HR).below hbw6) hUW hUR (by omega) h256 h8 (unhide Hsp))
    clear Hc6 hres hfs2 hI6 hb6
    go_wp2_with fail
    refine (unhide Hc7).mono ?_
    rintro e w7 ⟨⟨ao, co, ar7, cr7, he, hO, hV⟩, hb7⟩
    subst he
    have hs7 := hb7.size
    replace g0 := (hb7.cell (p := ⟨w.heap.size, 0, none⟩) hl6).trans g0
    replace g1 := (hb7.cell (p := ⟨w.heap.size, 1, none⟩) hl6).trans g1
    replace k0 := (hb7.cell (p := ⟨w3.heap.size, 0, none⟩) hl6').trans k0
    replace k1 := (hb7.cell (p := ⟨w3.heap.size, 1, none⟩) hl6').trans k1
    have hbw7 : Below w.heap.size w w7 := hbw6.trans (hb7.mono (by omega))
    have hl7 : w.heap.size < w7.heap.size := by omega
    have hl7' : w3.heap.size < w7.heap.size := by omega
    replace HBL := hide (((unhide HBL).below hb7).mono hs7)
    replace HI5 := hide (((unhide HI5).below hb7).mono hs7)
    replace HI6 := hide (((unhide HI6).below hb7).mono hs7)
    have Hc8 := hide (show Calls Try.prog 15 #[.agg #[.slice ao (readG fs' rs).objs.length co, .slice ar7 (readG fs' rs).roots.length cr7]] w7 fun e w' => ∃ a cap, e = .returned (.slice a (rL fs' rs).length cap) ∧ Ints w'.heap.size w' a (rL fs' rs) ∧ Below w7.heap.size w7 w' from refReach_c ao ar7 co cr7 (readG fs' rs) w7.heap.size w7 hO hV (Nat.le_refl _) (unhide HG))
    clear Hc7 hO hV hb7
    go_wp2_with fail
    refine (unhide Hc8).mono ?_
    rintro e w8 ⟨ra, rc, he, hI8, hb8⟩
    subst he
    have hs8 := hb8.size
    replace g0 := (hb8.cell (p := ⟨w.heap.size, 0, none⟩) hl7).trans g0
    replace g1 := (hb8.cell (p := ⟨w.heap.size, 1, none⟩) hl7).trans g1
    replace k0 := (hb8.cell (p := ⟨w3.heap.size, 0, none⟩) hl7').trans k0
    replace k1 := (hb8.cell (p := ⟨w3.heap.size, 1, none⟩) hl7').trans k1
    have hbw8 : Below w.heap.size w w8 := hbw7.trans (hb8.mono (by omega))
    have hl8 : w.heap.size < w8.heap.size := by omega
    have hl8' : w3.heap.size < w8.heap.size := by omega
    replace HBL := hide (((unhide HBL).below hb8).mono hs8)
    replace HI5 := hide (((unhide HI5).below hb8).mono hs8)
    replace HI6 := hide (((unhide HI6).below hb8).mono hs8)
    have HI8 := hide hI8
    have HW8 := hide ((unhide HW).below hbw8)
    have dl : (((stF 0 (sF fs' (rL fs' rs))).length : Int) != ((rL fs' rs).length : Int)) = false := by simp [hLn]
    have hRl : (rL fs' rs).length ≤ 256 := by
      have := unhide Hsp'
      have h1 := (splitR_st this).1
      have h2 := tot_len (sF fs' (rL fs' rs))
      rw [sF_len] at h2
      omega
    clear Hc8 hI8 hb8 Hsp Hsp' HG HW HR hLn
    generalize rL fs' rs = R at *
    generalize stF 0 (sF fs' R) = NW at *
    generalize stF 0 fs' = ST at *
    generalize slL hs fs' rs = BL at *
    generalize slR fs' rs = BR at *
    go_wp2
    go_loopw [55] (fun i wr => ∃ k : Nat, k ≤ R.length ∧ i = .int .i64 k ∧ Below w8.heap.size w8 wr) (fun i _ => R.length - (intOf i).toNat)
    case atStart => exact ⟨0, Nat.zero_le _, rfl, Below.refl _ _⟩
    case round =>
      obtain ⟨k, hk, rfl, hb⟩ := hrel
      have hsz := hb.size
      have g0r := (hb.cell (p := ⟨w.heap.size, 0, none⟩) hl8).trans g0
      have g1r := (hb.cell (p := ⟨w.heap.size, 1, none⟩) hl8).trans g1
      have k0r := (hb.cell (p := ⟨w3.heap.size, 0, none⟩) hl8').trans k0
      have k1r := (hb.cell (p := ⟨w3.heap.size, 1, none⟩) hl8').trans k1
      have hlr : w.heap.size < wr.heap.size := by omega
      have hlr' : w3.heap.size < wr.heap.size := by omega
      by_cases hlt : k < R.length
      · obtain ⟨i, p, q, x, hRk, hSi, hNk, hwx, hBx, hx1, hx2, hqp, hp⟩ := unhide Hor k hlt
        have hSl : i < ST.length := (List.getElem?_eq_some_iff.1 hSi).1
        have hNl : k < NW.length := (List.getElem?_eq_some_iff.1 hNk).1
        obtain ⟨b8, o8, rfl, hB8, hc8⟩ := ((unhide HI8).below hb).at hlt
        obtain ⟨b5, o5, rfl, hB5, hc5⟩ := ((unhide HI5).below hb).at hSl
        obtain ⟨b6, o6, rfl, hB6, hc6⟩ := ((unhide HI6).below hb).at hNl
        rw [show R[k] = (i : Int) from by rw [List.getElem?_eq_getElem hlt] at hRk; injection hRk] at hc8
        rw [show ST[i] = (p : Int) from by rw [List.getElem?_eq_getElem hSl] at hSi; injection hSi] at hc5
        rw [show NW[k] = (q : Int) from by rw [List.getElem?_eq_getElem hNl] at hNk; injection hNk] at hc6
        have hrx := reh_ok false x
        have hA1 : Hid (∀ W, Below wr.heap.size wr W → Calls Try.prog 17 #[.agg #[.slice aw ws.length cw, .slice ar rs.length cr], .int .i64 (p : Nat)] W fun e w' => e = .returned (.tuple #[.agg #[.int .i64 (uhL x), .bool (uhM x), .int .i64 (uhA x)], .bool (uhE x == 0)]) ∧ Below W.heap.size W w') := fun W hbW =>
          headAt_c aw ar cw rs.length cr ws p x w.heap.size W (((unhide HW8).below (hb.mono (by omega))).below (hbW.mono (by omega))) (by have := hbW.size; omega) hwx hx1 hx2
        have hA2 : Hid (∀ W, Below wr.heap.size wr W → Calls Try.prog 17 #[.agg #[.slice ba BL.length bc, .slice ba' BR.length bc'], .int .i64 (q : Nat)] W fun e w' => e = .returned (.tuple #[.agg #[.int .i64 (uhL x), .bool false, .int .i64 (uhA x)], .bool (uhE (reh false x) == 0)]) ∧ Below W.heap.size W w') := fun W hbW => by
          have := headAt_c ba ba' bc BR.length bc' BL q (reh false x) w8.heap.size W (((unhide HBL).below hb).below (hbW.mono hsz)) (by have := hbW.size; omega) hBx hrx.2.2.2.2.1 hrx.2.2.2.2.2
          rw [hrx.2.1, hrx.2.2.1, hrx.2.2.2.1] at this
          exact this
        have hkI : (k : Int) < (R.length : Int) := by omega
        have hiI : (i : Int) < (ST.length : Int) := by omega
        have hnI : (k : Int) < (NW.length : Int) := by omega
        have hq8 : b8 < wr.heap.size := by omega
        have hq5 : b5 < wr.heap.size := by omega
        have hq6 : b6 < wr.heap.size := by omega
        clear hRk hSi hNk hwx hBx hx1 hx2 hrx
        generalize (uhE (reh false x) == 0) = e2 at *
        generalize (uhE x == 0) = e1 at *
        generalize uhL x = xl at *
        generalize uhA x = xa at *
        generalize uhM x = xm at *
        have hbd : Below wr.heap.size wr wr.drew := (Below.refl _ _).drew
        have hbda : Below wr.heap.size wr (wr.alloc (.cells #[.int .i64 0, .bool false, .int .i64 0] 42)).drew := ((Below.refl _ _).alloc (Nat.le_refl _) _).drew
        go_upto_region 14 with fail
        go_cut [12, 13] from 60 to 68 (fun s12 s13 wx => ∃ hd, s12 = .pointer (some ⟨hd, 0, none⟩) ∧ (∃ v, s13 = .bool v) ∧ wx.cell? ⟨hd, 0, none⟩ = some (.int .i64 xl) ∧ wx.cell? ⟨hd, 1, none⟩ = some (.bool xm) ∧ wx.cell? ⟨hd, 2, none⟩ = some (.int .i64 xa) ∧ hd < wx.heap.size ∧ Below wr.heap.size wr wx)
        case first =>
          go_region_with (go_at_call 17; go_must (first | (refine (unhide hA1 wr.drew hbd).mono ?_; rintro e w9 ⟨he, hb9⟩; subst he; have hb9' : Below wr.heap.size wr w9 := hbd.trans hb9; have hs9 := hb9'.size) | (refine (unhide hA1 (wr.alloc (.cells #[.int .i64 0, .bool false, .int .i64 0] 42)).drew hbda).mono ?_; rintro e w9 ⟨he, hb9⟩; subst he; have hz9 := hdr_alloc hb9; have q0 := hz9.1; have q1 := hz9.2.1; have q2 := hz9.2.2.1; have f0 := hz9.2.2.2.1 0; have f1 := hz9.2.2.2.1 1; have f2 := hz9.2.2.2.1 2; have hl9 := hz9.2.2.2.2.1; have hb9' : Below wr.heap.size wr w9 := hz9.2.2.2.2.2; clear hz9)))
          all_goals
            go_wp2_with fail
            go_meet
            case rel => first
              | exact ⟨_, rfl, ⟨_, rfl⟩, by simp [go_sem], by simp [go_sem], by simp [go_sem], by simp, hb9'.alloc hs9 _⟩
              | exact ⟨_, rfl, ⟨_, rfl⟩, by simp [go_sem, q0, q1, q2], by simp [go_sem, q0, q1, q2], by simp [go_sem, q0, q1, q2], by simp [World.setCell]; exact hl9, ((hb9'.setCell (p := ⟨wr.heap.size, 0, none⟩) (Nat.le_refl _) _).setCell (p := ⟨wr.heap.size, 1, none⟩) (Nat.le_refl _) _).setCell (p := ⟨wr.heap.size, 2, none⟩) (Nat.le_refl _) _⟩
        case rest =>
        obtain ⟨hd, rfl, ⟨v13, rfl⟩, v0, v1, v2, hlv, hbc⟩ := hcut
        obtain ⟨wy, hwy⟩ : ∃ wy, wy = wc := ⟨_, rfl⟩
        subst hwy
        have hsc := hbc.size
        have k0c := (hbc.cell (p := ⟨w3.heap.size, 0, none⟩) hlr').trans k0r
        have k1c := (hbc.cell (p := ⟨w3.heap.size, 1, none⟩) hlr').trans k1r
        have hc5c := (hbc.cell (p := ⟨b5, o5 + i, none⟩) hq5).trans hc5
        have hc6c := (hbc.cell (p := ⟨b6, o6 + k, none⟩) hq6).trans hc6
        have hlc' : w3.heap.size < wy.heap.size := by omega
        have hq5c : b5 < wy.heap.size := by omega
        have hq6c : b6 < wy.heap.size := by omega
        have hA2x : Hid (∀ W, Below wy.heap.size wy W → Calls Try.prog 17 #[.agg #[.slice ba BL.length bc, .slice ba' BR.length bc'], .int .i64 (q : Nat)] W fun e w' => e = .returned (.tuple #[.agg #[.int .i64 xl, .bool false, .int .i64 xa], .bool e2]) ∧ Below W.heap.size W w') := fun W h => unhide hA2 W (hbc.trans (h.mono hsc))
        clear hA1 hA2 g0r g1r k0r k1r hc8 hc5 hc6 hbd hbda
        have hbd2 : Below wy.heap.size wy wy.drew := (Below.refl _ _).drew
        have hbda2 : Below wy.heap.size wy (wy.alloc (.cells #[.int .i64 0, .bool false, .int .i64 0] 42)).drew := ((Below.refl _ _).alloc (Nat.le_refl _) _).drew
        have HV := hide (show wy.cell? ⟨hd, 0, none⟩ = some (.int .i64 xl) ∧ wy.cell? ⟨hd, 1, none⟩ = some (.bool xm) ∧ wy.cell? ⟨hd, 2, none⟩ = some (.int .i64 xa) from ⟨v0, v1, v2⟩)
        clear v0 v1 v2
        go_upto_region 15 with fail
        go_cut [14, 15] from 69 to 77 (fun s14 s15 wx => ∃ hd2, s14 = .pointer (some ⟨hd2, 0, none⟩) ∧ (∃ v, s15 = .bool v) ∧ wx.cell? ⟨hd2, 0, none⟩ = some (.int .i64 xl) ∧ wx.cell? ⟨hd2, 1, none⟩ = some (.bool false) ∧ wx.cell? ⟨hd2, 2, none⟩ = some (.int .i64 xa) ∧ hd2 < wx.heap.size ∧ Below wy.heap.size wy wx)
        case first =>
          go_region_with (go_at_call 17; go_must (first | (refine (unhide hA2x wy.drew hbd2).mono ?_; rintro e w9 ⟨he, hb9⟩; subst he; have hb9' : Below wy.heap.size wy w9 := hbd2.trans hb9; have hs9 := hb9'.size) | (refine (unhide hA2x (wy.alloc (.cells #[.int .i64 0, .bool false, .int .i64 0] 42)).drew hbda2).mono ?_; rintro e w9 ⟨he, hb9⟩; subst he; have hz9 := hdr_alloc hb9; have q0 := hz9.1; have q1 := hz9.2.1; have q2 := hz9.2.2.1; have f0 := hz9.2.2.2.1 0; have f1 := hz9.2.2.2.1 1; have f2 := hz9.2.2.2.1 2; have hl9 := hz9.2.2.2.2.1; have hb9' : Below wy.heap.size wy w9 := hz9.2.2.2.2.2; clear hz9)))
          all_goals
            go_wp2_with fail
            go_meet
            case rel => first
              | exact ⟨_, rfl, ⟨_, rfl⟩, by simp [go_sem], by simp [go_sem], by simp [go_sem], by simp, hb9'.alloc hs9 _⟩
              | exact ⟨_, rfl, ⟨_, rfl⟩, by simp [go_sem, q0, q1, q2], by simp [go_sem, q0, q1, q2], by simp [go_sem, q0, q1, q2], by simp [World.setCell]; exact hl9, ((hb9'.setCell (p := ⟨wy.heap.size, 0, none⟩) (Nat.le_refl _) _).setCell (p := ⟨wy.heap.size, 1, none⟩) (Nat.le_refl _) _).setCell (p := ⟨wy.heap.size, 2, none⟩) (Nat.le_refl _) _⟩
        case rest =>
        obtain ⟨hd2, rfl, ⟨v15, rfl⟩, y0, y1, y2, hlu, hbc2⟩ := hcut
        have hsd := hbc2.size
        have v0 := (hbc2.cell (p := ⟨hd, 0, none⟩) hlv).trans (unhide HV).1
        have v2 := (hbc2.cell (p := ⟨hd, 2, none⟩) hlv).trans (unhide HV).2.2
        have hc5d := (hbc2.cell (p := ⟨b5, o5 + i, none⟩) hq5c).trans hc5c
        have hc6d := (hbc2.cell (p := ⟨b6, o6 + k, none⟩) hq6c).trans hc6c
        have hq5d : b5 < wc.heap.size := by omega
        have hq6d : b6 < wc.heap.size := by omega
        have hlvd : hd < wc.heap.size := by omega
        have hbwc : Below w8.heap.size w8 wc := hb.trans ((hbc.trans (hbc2.mono hsc)).mono hsz)
        clear hA2x k0c k1c hc5c hc6c hbd2 hbda2 HV
        have dn3 : (xl != xl) = false := by simp
        have dn4 : (xa != xa) = false := by simp
        have dg1 : decide ((p : Int) < (q : Int)) = false := by simp; omega
        have dg2 : decide ((q : Int) > (p : Int)) = false := by simp; omega
        go_upto_region 16 with fail
        go_quiet (fail)
        have hbq := below_drewN hbwc nq
        generalize wc.drewN nq = we at *
        go_wp2
        go_roundw
        case rel => exact ⟨k + 1, by omega, by go_num, hbq⟩
        case measure => simp [intOf]; omega
      · obtain rfl : k = R.length := by omega
        go_wp2
        go_ret
        exact ⟨rfl, hbw8.trans (hb.mono (by omega))⟩
  · have d0 : (arenaE ws rs == 0) = false := by simp [hE]
    have HE := hide hE
    rw [d0]
    have Hc2 := hide (unsound_c aw ar cw cr ws rs w.heap.size w2 (hW.below hbw2) (hR.below hbw2) hUW hUR (by omega) hcap)
    clear hE
    go_wp2_with fail
    refine (unhide Hc2).mono ?_
    rintro e w3 ⟨he, hb3⟩
    have d3 : (arenaE ws rs != 0) = true := by simpa using unhide HE
    rw [d3] at he
    subst he
    go_wp2
    go_ret
    exact ⟨rfl, hbw2.trans (hb3.mono (by omega))⟩

end Go.Proofs.Ytnbhciejlidnlaa
