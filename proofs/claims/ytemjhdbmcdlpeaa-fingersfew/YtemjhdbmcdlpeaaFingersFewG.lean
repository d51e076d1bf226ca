/- Merged texts: Mm Mn Mo Mp Mq Lk Kh Ki Km Ln Kj Tb Kk Ll. -/
import Derived.Test.YtemjhdbmcdlpeaaProg
import Derived.Test.YtemjhdbmcdlpeaaFingersFewF
import Derived.Deep.RegionLaw
import Derived.Deep.CutRange
import Derived.OwnWalk
import Derived.Lib.SmallJoins

/- Walks: markAll. -/
namespace Go.Proofs.Ytemjhdbmcdlpeaa
set_option linter.unusedSimpArgs false
set_option linter.unusedVariables false
open Go.RowKit Go.Shelf
attribute [local go_sem] field51_0 field51_1

theorem unm_mono {p q : Nat → Bool} (h : ∀ j, p j = true → q j = true) (n : Nat) : unm n q ≤ unm n p := by
  unfold unm
  rw [← List.countP_eq_length_filter, ← List.countP_eq_length_filter]
  refine List.countP_mono_left fun x _ hx => ?_
  cases hp : p x
  · rfl
  · rw [h x hp] at hx; cases hx

/-- Whether something was lost, as memory tells. -/
def mesL (mb : Nat) (w : World) : Nat := match w.cell? ⟨mb, 4, none⟩ with
  | some (.bool true) => 1
  | _ => 0

theorem mesL_eq {W : World} {N mb : Nat} {vw vr : Value} {hs : List Int} {fs : List (List Int)} {rs : List Int} {room : Nat} {p : Nat → Bool} {K : List Nat} {lost : Bool} (h : MkA W N mb vw vr hs fs rs room p K lost) : mesL mb W = if lost then 1 else 0 := by
  obtain ⟨vk, h⟩ := h
  unfold mesL
  rw [h.box.c4]
  cases lost <;> rfl

/-- What markAll leaves. -/
def MaRes (N mb : Nat) (vw vr : Value) (hs : List Int) (fs : List (List Int)) (rs : List Int) (room : Nat) (W : World) : Prop :=
  ∃ p, MkA W N mb vw vr hs fs rs room p [] false ∧ ∀ j, p j = true ↔ Rch fs rs j

set_option maxRecDepth 100000 in
set_option maxHeartbeats 2000000 in
theorem markAll_c (hs : List Int) (fs : List (List Int)) (rs : List Int) (N mb : Nat) (vw vr : Value) (room : Nat) (w : World)
    (hM : MkA w N mb vw vr hs fs rs room (fun _ => false) [] false) (hA : Arn hs fs rs) (hr1 : 1 ≤ room) (hroom : room ≤ 64) :
    Calls Try.prog 38 #[.pointer (some ⟨mb, 0, none⟩)] w fun e w' => (e = .returned (.tuple #[]) ∧ MaRes N mb vw vr hs fs rs room w') ∧ Below N w w' ∧ KeepT w w' := by
  have HM0 := hide hM
  have HA := hide hA
  have HF := hide hA.fit
  have h256 := hA.n256
  have HI0 : Hid (Inv fs rs (fun _ => False) (fs.length + 1) (fun _ => false) [] false) := hide ⟨fun j h => (by cases h), by simp, by simp, fun _ j h => (by cases h), by unfold unm; have := List.length_filter_le (fun i => !(fun _ => false) i) (List.range fs.length); rw [List.length_range] at this; omega, fun e => by cases e⟩
  clear hM hA
  go_enter Try.func38, Try.ntmps38
  go_wp2
  go_loopw [] (fun wr => ∃ p lost, Hid (MkA wr N mb vw vr hs fs rs room p [] lost) ∧ Hid (Inv fs rs (fun _ => False) (fs.length + 1) p [] lost) ∧ Below N w wr ∧ Hid (KeepT w wr)) (fun wr => mesU vw fs wr)
  case atStart => exact ⟨_, _, HM0, HI0, Below.refl _ _, hide (KeepT.refl _)⟩
  case round =>
    clear HM0 HI0
    obtain ⟨p, lost, HMA, HI, hb, Hkt⟩ := hrel
    have HmU := hide (mesU_eq (unhide HMA) (unhide HF))
    obtain ⟨vk, hM⟩ := unhide HMA
    have q1 := hM.box.c1
    have hlm := hM.box.lt
    have hmN := hM.lo
    have hNw : N ≤ wr.heap.size := by omega
    obtain ⟨ra, rc, hvr, hrd⟩ := hM.rds (unhide HA).n8
    subst hvr
    have Hun := hide (unmarked_c ra rc rs hs fs p N mb vw _ vk rs _ room lost wr hM (unhide HF) h256 hrd (unhide HA).ur (unhide HA).n8 (unhide HA).okr)
    clear hM hrd
    go_wp2_with fail
    refine (unhide Hun).mono ?_
    rintro e w3 ⟨hres, hb3⟩
    have hs3 := hb3.size
    clear Hun
    rcases hres with ⟨j, hj, hpj, hto, he⟩ | ⟨hall, he⟩
    · subst he
      have Htk := hide (take_c hs fs rs p [] N mb vw _ room j lost w3 ((unhide HMA).below hb3) (unhide HF) h256 hroom (by simp) hj)
      have HI2 := hide ((unhide HI).push hj hpj (rch_root hto))
      have Hu := hide (unm_upd hj hpj)
      clear hto hpj HI HMA
      go_wp2_with fail
      refine (unhide Htk).mono ?_
      rintro e w4 ⟨⟨he, hres⟩, hb4, hk4⟩
      subst he
      have h4 : MkA w4 N mb vw (.slice ra rs.length rc) hs fs rs room (upd p j) ([] ++ [j]) lost := by
        rcases hres with ⟨h1, _⟩ | ⟨_, h2⟩
        · simp at h1; omega
        · exact h2
      have Hcl := hide (climb_c hs fs rs _ _ (upd p j) ([] ++ [j]) N mb vw _ room lost w4 h4 (unhide HA) hroom (by simpa using hr1) (unhide HI2))
      have Hk4 := hide ((unhide Hkt).trans ((KeepT.below hb3).trans hk4))
      have hbw4 : Below N w w4 := (hb.trans (hb3.mono hNw)).trans hb4
      clear hres h4 Htk HI2 hk4
      go_wp2_with fail
      refine (unhide Hcl).mono ?_
      rintro e w5 ⟨⟨he, p', lost', h1, h2, h3⟩, hb5, hk5⟩
      subst he
      have H1 := hide h1
      have H2 := hide h2
      have H3 := hide h3
      have Hk5 := hide ((unhide Hk4).trans hk5)
      clear h1 h2 h3 hk5 Hcl
      go_wp2
      go_roundw
      case rel => exact ⟨p', lost', H1, H2, hbw4.trans hb5, Hk5⟩
      case measure =>
        have := unm_mono (unhide H3) fs.length
        have := unhide Hu
        rw [unhide HmU, mesU_eq (unhide H1) (unhide HF)]
        omega
    · subst he
      have Hall := hide hall
      have HM3 := hide ((unhide HMA).below hb3)
      have Hk3 := hide ((unhide Hkt).trans (KeepT.below hb3))
      have hbw3 : Below N w w3 := hb.trans (hb3.mono hNw)
      clear hall HMA HmU Hkt q1 hlm hNw hb hb3 hs3
      go_wp2
      go_loopw [] (fun wr => ∃ p lost n0, Hid (MkA wr N mb vw (.slice ra rs.length rc) hs fs rs room p [] lost) ∧ Hid (Inv fs rs (fun _ => False) n0 p [] lost) ∧ Hid (∀ j, To fs rs j → p j = true) ∧ Below N w wr ∧ Hid (KeepT w wr)) (fun wr => 2 * mesU vw fs wr + mesL mb wr)
      case atStart => exact ⟨p, lost, _, HM3, HI, Hall, hbw3, Hk3⟩
      case round =>
        clear HM3 HI Hall hbw3 Hk3
        obtain ⟨p, lost, n0, HMA, HI, Hall, hb, Hkt⟩ := hrel
        have HmU := hide (mesU_eq (unhide HMA) (unhide HF))
        have HmL := hide (mesL_eq (unhide HMA))
        have q4 : wr.cell? ⟨mb, 4, none⟩ = some (.bool lost) := by obtain ⟨vk, hM⟩ := unhide HMA; exact hM.box.c4
        have hlm : mb < wr.heap.size := by obtain ⟨vk, hM⟩ := unhide HMA; exact hM.box.lt
        cases lost
        · have HR : Hid (MaRes N mb vw (.slice ra rs.length rc) hs fs rs room wr) := hide ⟨p, unhide HMA, marked_all (unhide HI).rch (unhide Hall) (fun i hi => by
            rcases (unhide HI).cl rfl i hi with h | h | h
            · cases h
            · cases h
            · exact h)⟩
          go_wp2
          exact bodyPost_end (v := .tuple #[]) (results_none rfl _ _ _) rfl ⟨⟨rfl, unhide HR⟩, hb, unhide Hkt⟩
        · have Hag := hide (again_c hs fs rs n0 p N mb vw _ room wr (unhide HMA) (unhide HA) hr1 hroom (unhide HI))
          go_wp2_with fail
          refine (unhide Hag).mono ?_
          rintro e w5 ⟨⟨he, p', lost', h1, h2, h3⟩, hb5, hk5⟩
          subst he
          have H1 := hide h1
          have H2 := hide h2
          have H3 := hide h3
          have Hk5 := hide ((unhide Hkt).trans hk5)
          clear h1 h2 h3 hk5 Hag
          go_wp2
          go_roundw
          case rel => exact ⟨p', lost', _, H1, H2, hide (fun j hj => unhide H3 j (unhide Hall j hj)), hb.trans hb5, Hk5⟩
          case measure =>
            have hm := unm_mono (unhide H3) fs.length
            rw [unhide HmU, unhide HmL, mesU_eq (unhide H1) (unhide HF), mesL_eq (unhide H1)]
            cases lost'
            · simp; omega
            · have := (unhide H2).ls rfl
              simp; omega

end Go.Proofs.Ytemjhdbmcdlpeaa

/- Walks: newMarker. -/
namespace Go.Proofs.Ytemjhdbmcdlpeaa
set_option linter.unusedSimpArgs false
set_option linter.unusedVariables false
open Go.RowKit Go.Shelf
attribute [local go_sem] field51_0 field51_1

theorem run_append_words (w : World) (base : Nat) (ty : TypeId) (ar : Option Addr) (l : List Int) (c : Nat) (hW : Wds w.heap.size w ar l) (hl : l.length ≤ 256) (hbase : base ≤ w.heap.size) :
    ∃ v' w', (Builtin.append_ #[22, 22] ty #[.slice none 0 0, .slice ar l.length c]).run Try.prog w = .ok v' w' ∧ w'.ownsRow base 56 1 v' l.length (wordsV l) ∧ w.grownBy w' none ∧ (v'.ownBlock = none ∨ v'.ownBlock = some w.heap.size) := by
  obtain ⟨i0, hi0, hz0, hz1, hz2⟩ := info_parts Try.info56m
  cases ar with
  | none =>
    have h0 : l = [] := by
      cases l with
      | nil => rfl
      | cons x l => obtain ⟨b, off, e, _⟩ := hW.2 (by simp); cases e
    subst h0
    refine ⟨.slice none 0 0, w, ?_, World.ownsRow_nil _ _ _ _, ⟨rfl, rfl, rfl, Nat.le_refl _, fun _ _ _ => rfl⟩, .inl rfl⟩
    simp [Builtin.append_, run_underlying Try.underlying22, sizeOf, typeInfo, hi0, Builtin.lenOf, Builtin.firstCells]
  | some ad =>
    have hn : ∀ j u, (wordsV l)[j]? = some u → w.cell? (ad.add j) = some u := by
      intro j u hj
      obtain ⟨b, off, e, _, hc⟩ := hW.2 (by rintro rfl; simp [wordsV] at hj)
      have e' := Option.some.inj e
      subst e'
      rw [Go.WideShapes.add_plain]
      simp only [wordsV, List.getElem?_map, Option.map_eq_some_iff] at hj
      obtain ⟨x, hx, rfl⟩ := hj
      exact hc j x hx
    obtain ⟨v', w', h1, h2, h3, _, h5⟩ := run_append_own_at (P := Try.prog) w base 22 ty 56 i0 (.int .u64 0) 1 8 Try.underlying22 hi0 hz0 hz1 hz2 rfl (by decide) (.slice none 0 0) 0 [] (World.ownsRow_nil _ _ _ _) ad l.length c (wordsV l) (by simp [wordsV]) hn (by intro u hu; simp only [wordsV, List.mem_map] at hu; obtain ⟨x, _, rfl⟩ := hu; rfl) (by simp only [maxLen]; omega) (by omega) hbase
    rw [Nat.zero_add, List.nil_append] at h2
    exact ⟨v', w', h1, h2, h3, h5⟩

theorem step_append_words {ops : Array Oper} {o : Oper} {a : Act} {w : World} {K : Act → World → Prop} {Q : Exit → Act → World → Prop} {E : Prop} (hgd : o.guard = none) (s x : Operand)
    (ho : o.op = .call { callee := .builtin .append, args := #[s, x], argTypes := #[22, 22] }) (base : Nat) (ar : Option Addr) (l : List Int) (c : Nat) (hs : a.eval s = .slice none 0 0) (hx : a.eval x = .slice ar l.length c) (hW : Wds w.heap.size w ar l) (hl : l.length ≤ 256) (hbase : base ≤ w.heap.size)
    (h : ∀ v' w', w'.ownsRow base 56 1 v' l.length (wordsV l) → w.grownBy w' none → (v'.ownBlock = none ∨ v'.ownBlock = some w.heap.size) → K (a.put o.dst v') w') :
    if Region.wanted o (yielded ops a.tmps) = true then Oper.wp Try.prog o a w K Q else E := by
  have hw : Region.wanted o (yielded ops a.tmps) = true := by simp [Region.wanted, hgd]
  rw [if_pos hw]
  obtain ⟨v', w', hr, h2, h3, h5⟩ := run_append_words w base o.type ar l c hW hl hbase
  unfold Oper.wp execOp
  simp only [ho, resolve, invoke, builtin, Sem.run_bind, Sem.run_pure, Result.andThen_ok, List.map_toArray, List.map_cons, List.map_nil, hs, hx, hr]
  exact h v' w' h2 h3 h5

theorem grown_own {W w1 : World} {base : Nat} {e : TypeId} {size : Nat} {v : Value} {n : Nat} {xs : List Value} (h : W.ownsRow base e size v n xs) (hg : W.grownBy w1 none) : w1.ownsRow base e size v n xs := h.kept hg (by cases hv : v.ownBlock <;> simp)

/-- Behind the first append and its store. -/
theorem Mk.first {W w1 : World} {N mb : Nat} {vr vk v' : Value} {ws rs K : List Int} {room : Nat} {lost : Bool} (h : Mk W N mb (.slice none 0 0) vr vk [] rs K room lost) (hrow : w1.ownsRow N 56 1 v' ws.length (wordsV ws)) (hg : W.grownBy w1 none)
    (hat : v'.ownBlock = none ∨ v'.ownBlock = some W.heap.size) : MBox w1 mb (.slice none 0 0) vr room vk lost ∧ Mk (w1.setCell ⟨mb, 0, none⟩ v') N mb v' vr vk ws rs K room lost := by
  have hbox : MBox w1 mb (.slice none 0 0) vr room vk lost := h.box.kept (hg.block _ h.box.lt (by simp))
  have new : ∀ {u : Value}, (∀ k, u.ownBlock = some k → k < W.heap.size) → ∀ k, v'.ownBlock = some k → u.ownBlock ≠ some k := by
    intro u h1 k hk e
    rcases hat with h | h
    · rw [h] at hk; cases hk
    · rw [h] at hk; injection hk with hk; have := h1 k e; omega
  have hg2 := grown_set w1 mb 0 v'
  have ne : v'.ownBlock ≠ some mb := fun e => by
    rcases hat with h1 | h1
    · rw [h1] at e; cases e
    · rw [h1] at e; injection e with e; have := h.box.lt; omega
  exact ⟨hbox, hbox.set0 v', h.lo, hrow.kept hg2 (or_ne ne), (grown_own h.ro hg).kept hg2 (or_ne h.ar), (grown_own h.ko hg).kept hg2 (or_ne h.ak), ne, h.ar, h.ak, new (fun k hk => (h.ro.lt k hk).2), new (fun k hk => (h.ko.lt k hk).2), h.rk⟩

/-- Behind the second append and its store. -/
theorem Mk.second {W w1 : World} {N mb : Nat} {vw vk v' : Value} {ws rs K : List Int} {room : Nat} {lost : Bool} (h : Mk W N mb vw (.slice none 0 0) vk ws [] K room lost) (hrow : w1.ownsRow N 56 1 v' rs.length (wordsV rs)) (hg : W.grownBy w1 none)
    (hat : v'.ownBlock = none ∨ v'.ownBlock = some W.heap.size) : MBox w1 mb vw (.slice none 0 0) room vk lost ∧ Mk (w1.setCell ⟨mb, 1, none⟩ v') N mb vw v' vk ws rs K room lost := by
  have hbox : MBox w1 mb vw (.slice none 0 0) room vk lost := h.box.kept (hg.block _ h.box.lt (by simp))
  have new : ∀ {u : Value}, (∀ k, u.ownBlock = some k → k < W.heap.size) → ∀ k, v'.ownBlock = some k → u.ownBlock ≠ some k := by
    intro u h1 k hk e
    rcases hat with h | h
    · rw [h] at hk; cases hk
    · rw [h] at hk; injection hk with hk; have := h1 k e; omega
  have hg2 := grown_set w1 mb 1 v'
  have ne : v'.ownBlock ≠ some mb := fun e => by
    rcases hat with h1 | h1
    · rw [h1] at e; cases e
    · rw [h1] at e; injection e with e; have := h.box.lt; omega
  exact ⟨hbox, hbox.set1 v', h.lo, (grown_own h.wo hg).kept hg2 (or_ne h.aw), hrow.kept hg2 (or_ne ne), (grown_own h.ko hg).kept hg2 (or_ne h.ak), h.aw, ne, h.ak, fun k hk e => new (fun k hk => (h.wo.lt k hk).2) k e hk, h.wk, new (fun k hk => (h.ko.lt k hk).2)⟩

theorem keepT_grown {a W W' : World} (h : KeepT a W) (hg : W.grownBy W' none) : KeepT a W' := h.trans fun k cs t hk _ _ _ => by rw [hg.block k (Array.getElem?_eq_some_iff.1 hk).1 (by simp)]; exact hk

/-- A new marker. -/
theorem mk_start {w1 : World} {N kb room : Nat} (h : w1.ownsRow N 3 1 (.slice (some ⟨kb, 0, none⟩) 0 room) 0 []) (hN : N ≤ w1.heap.size) :
    Mk ((w1.alloc (.cells #[.slice none 0 0, .slice none 0 0, .int .i64 (room : Nat), .slice (some ⟨kb, 0, none⟩) 0 room, .bool false] 80)).alloc (.cells #[.pointer (some ⟨w1.heap.size, 0, none⟩)] 77)) N w1.heap.size (.slice none 0 0) (.slice none 0 0) (.slice (some ⟨kb, 0, none⟩) 0 room) [] [] [] room false := by
  have hk := (h.lt kb rfl).2
  refine ⟨⟨by simp [go_sem], by simp [go_sem], by simp [go_sem], by simp [go_sem], by simp [go_sem], fun j => ?_, ?_⟩, hN, World.ownsRow_nil _ _ _ _, World.ownsRow_nil _ _ _ _, (h.alloc _).alloc _, by simp [Value.ownBlock], by simp [Value.ownBlock], by simp [Value.ownBlock]; omega, by simp [Value.ownBlock], by simp [Value.ownBlock], by simp [Value.ownBlock]⟩
  · simp [go_sem]
  · refine ⟨#[.slice none 0 0, .slice none 0 0, .int .i64 (room : Nat), .slice (some ⟨kb, 0, none⟩) 0 room, .bool false], ?_⟩
    rw [Below.heap_alloc _ _ _ (by simp)]
    exact heap_alloc_new _ _

end Go.Proofs.Ytemjhdbmcdlpeaa

/- Walks: newMarker. -/
namespace Go.Proofs.Ytemjhdbmcdlpeaa
set_option linter.unusedSimpArgs false
set_option linter.unusedVariables false
open Go.RowKit Go.Shelf
attribute [local go_sem] field51_0 field51_1

def NmRes (N : Nat) (hs : List Int) (fs : List (List Int)) (rs : List Int) (room : Nat) (e : Ending) (W : World) : Prop :=
  ∃ mb vw vr, e = .returned (.pointer (some ⟨mb, 0, none⟩)) ∧ MkA W N mb vw vr hs fs rs room (fun _ => false) [] false

set_option maxRecDepth 100000 in
set_option maxHeartbeats 2000000 in
theorem newMarker_c (aw ar : Option Addr) (cw cr : Nat) (hs : List Int) (fs : List (List Int)) (rs : List Int) (room : Nat) (w : World) (hA : Arn hs fs rs) (hr1 : 1 ≤ room) (hroom : room ≤ 64)
    (hW : Wds w.heap.size w aw (joinW hs fs)) (hR : Wds w.heap.size w ar rs) :
    Calls Try.prog 37 #[.agg #[.slice aw (tot fs : Nat) cw, .slice ar rs.length cr], .int .i64 (room : Nat)] w fun e w' => NmRes w.heap.size hs fs rs room e w' ∧ Below w.heap.size w w' := by
  obtain ⟨i0, hi0, hz0, hz1, hz2⟩ := info_parts Try.info3
  have hF := hA.fit
  have h256 := hA.n256
  have h8 := hA.n8
  have hjl := joinW_len hs fs hF.len
  have HF := hide hF
  have Hjl := hide hjl
  obtain ⟨W0, hW0⟩ : ∃ W0, w.alloc (.cells #[.slice aw (tot fs : Nat) cw, .slice ar rs.length cr] 24) = W0 := ⟨_, rfl⟩
  have hb0 : Below w.heap.size w W0 := by rw [← hW0]; exact (Below.refl _ _).alloc (Nat.le_refl _) _
  have hs0 : w.heap.size < W0.heap.size := by rw [← hW0]; simp
  have hp0 : W0.heap[w.heap.size]? = some (.cells #[.slice aw (tot fs : Nat) cw, .slice ar rs.length cr] 24) := by rw [← hW0]; exact heap_alloc_new _ _
  have Hp0 := hide hp0
  have HW := hide (hW.below hb0)
  have HR := hide (hR.below hb0)
  clear hW hR hA hjl hF hp0
  go_enter Try.func37, Try.ntmps37
  go_upto_region 2 with (at_make; go_must (refine wpList_make_own _ rfl _ _ 38 rfl w.heap.size 3 i0 _ 1 Try.underlying38 hi0 hz0 hz1 .i64 .i64 _ room rfl rfl rfl (by rw [hz2]; omega) (by simp only [maxLen]; omega) (by omega) ?_); go_must (intro w1 hown hg1))
  have hs1 := hg1.size
  have hM2 := mk_start hown (N := w.heap.size) (by omega)
  obtain ⟨W2, hW2⟩ : ∃ W2, ((w1.alloc (.cells #[.slice none 0 0, .slice none 0 0, .int .i64 (room : Nat), .slice (some ⟨W0.heap.size, 0, none⟩) 0 room, .bool false] 80)).alloc (.cells #[.pointer (some ⟨w1.heap.size, 0, none⟩)] 77)) = W2 := ⟨_, rfl⟩
  rw [hW2] at hM2
  have hp2 : W2.heap[w1.heap.size + 1]? = some (.cells #[.pointer (some ⟨w1.heap.size, 0, none⟩)] 77) := by
    have := heap_alloc_new (w1.alloc (.cells #[.slice none 0 0, .slice none 0 0, .int .i64 (room : Nat), .slice (some ⟨W0.heap.size, 0, none⟩) 0 room, .bool false] 80)) (.cells #[.pointer (some ⟨w1.heap.size, 0, none⟩)] 77)
    rw [hW2] at this
    simpa using this
  have hb2 : Below W0.heap.size W0 W2 := by rw [← hW2]; exact ((((Below.refl _ W0).grown hg1 (Nat.le_refl _) (fun k e => by cases e)).alloc hs1 _).alloc (by simp; omega) _)
  have hs2 := hb2.size
  rw [hW2]
  have hmW : W0.heap.size ≤ w1.heap.size := hs1
  have hlp2 := (Array.getElem?_eq_some_iff.1 hp2).1
  clear hown hg1 hW2 hW0 hs1
  generalize w1.heap.size = mb at *
  have hcp := cell_of_box hp2
  have q0 := hM2.box.c0
  have z0 := hM2.box.fr 0
  have hlm := hM2.box.lt
  have c24 : ∀ (wx : World), Below W0.heap.size W0 wx → wx.cell? ⟨w.heap.size, 0, none⟩ = some (.slice aw (tot fs : Nat) cw) ∧ wx.cell? ⟨w.heap.size, 1, none⟩ = some (.slice ar rs.length cr) := fun wx hb => by
    have h := (hb.block w.heap.size hs0).trans (unhide Hp0)
    exact ⟨by rw [cell_of_row wx w.heap.size 0 _ 24 (0, 0) h]; rfl, by rw [cell_of_row wx w.heap.size 1 _ 24 (0, 0) h]; rfl⟩
  have a0 := (c24 W2 hb2).1
  have hla : w.heap.size < W2.heap.size := by omega
  have HM2 := hide hM2
  have Hp2 := hide hp2
  have HWd : Hid (∀ wx, Below W0.heap.size W0 wx → Wds wx.heap.size wx aw (joinW hs fs) ∧ Wds wx.heap.size wx ar rs) := fun wx hb => ⟨((unhide HW).below (hb.mono (by omega))).mono (by have := hb.size; omega), ((unhide HR).below (hb.mono (by omega))).mono (by have := hb.size; omega)⟩
  have Hc24 := hide c24
  clear hM2 hp2 c24
  go_cut [] from 11 to 22 (fun wx => ∃ vw, Hid (Mk wx w.heap.size mb vw (.slice none 0 0) (.slice (some ⟨W0.heap.size, 0, none⟩) 0 room) (joinW hs fs) [] [] room false) ∧ Hid (KeepT W2 wx) ∧ Below W0.heap.size W0 wx)
  case first =>
    go_region_law (refine step_append_words rfl _ _ rfl w.heap.size aw (joinW hs fs) cw rfl (by rw [unhide Hjl]; rfl) (unhide HWd _ hb2.drew).1 (by rw [unhide Hjl]; exact h256) (by show w.heap.size ≤ W2.heap.size; omega) ?_; intro v' w5 hrow hg5 hat; have hfst := ((unhide HM2).below ((Below.refl _ _).drew)).first hrow hg5 hat; have r0 := hfst.1.c0; have t0 := hfst.1.fr 0; have hlm5 := hfst.1.lt; have Hfst := hide hfst.2; have Hty := hide hfst.1.ty; have Hk5 := hide (keepT_grown (KeepT.below ((Below.refl _ W2).drew)) hg5); have hb5 := hb2.drew.grown hg5 hs2 (fun k e => by cases e); have c5 := cell_of_box ((unhide Hk5) (mb + 1) _ 77 (unhide Hp2) (by decide) (by decide) (by decide)); clear hfst; obtain ⟨va, vc, hv5⟩ := ownsRow_slice hrow; subst hv5)
    all_goals
      go_wp2_with fail
      go_meet
      case rel => exact ⟨_, Hfst, hide ((unhide Hk5).setCell (unhide Hty) (.inr (.inr rfl)) _), hb5.setCell (p := ⟨mb, 0, none⟩) (by show W0.heap.size ≤ mb; omega) _⟩
  case rest =>
  obtain ⟨vw, HM3, Hk3, hb3⟩ := hcut
  clear q0 z0 hcp hlm hla a0 HM2 hlp2
  have hs3 := hb3.size
  have Hp3 := hide ((unhide Hk3) (mb + 1) _ 77 (unhide Hp2) (by decide) (by decide) (by decide))
  have hcp := cell_of_box (unhide Hp3)
  have q1 := (unhide HM3).box.c1
  have z1 := (unhide HM3).box.fr 1
  have hlm := (unhide HM3).box.lt
  have a1 := (unhide Hc24 wc hb3).2
  have hla : w.heap.size < wc.heap.size := by omega
  have hlp : mb + 1 < wc.heap.size := (Array.getElem?_eq_some_iff.1 (unhide Hp3)).1
  clear hb2 hs2 Hp2 Hk3
  go_upto_region 3 with fail
  go_cut [] from 23 to 34 (fun wx => ∃ vr, Hid (Mk wx w.heap.size mb vw vr (.slice (some ⟨W0.heap.size, 0, none⟩) 0 room) (joinW hs fs) rs [] room false) ∧ Hid (wx.heap[mb + 1]? = some (.cells #[.pointer (some ⟨mb, 0, none⟩)] 77)) ∧ Below W0.heap.size W0 wx)
  case first =>
    go_region_law (refine step_append_words rfl _ _ rfl w.heap.size ar rs cr rfl rfl (unhide HWd _ hb3.drew).2 (by omega) (by show w.heap.size ≤ wc.heap.size; omega) ?_; intro v' w5 hrow hg5 hat; have hsnd := ((unhide HM3).below ((Below.refl _ _).drew)).second hrow hg5 hat; have r0 := hsnd.1.c1; have t0 := hsnd.1.fr 1; have hlm5 := hsnd.1.lt; have Hsnd := hide hsnd.2; have Hty := hide hsnd.1.ty; have Hk5 := hide (keepT_grown (KeepT.below ((Below.refl _ wc).drew)) hg5); have hb5 := hb3.drew.grown hg5 hs3 (fun k e => by cases e); have c5 := cell_of_box ((unhide Hk5) (mb + 1) _ 77 (unhide Hp3) (by decide) (by decide) (by decide)); clear hsnd; obtain ⟨va, vc, hv5⟩ := ownsRow_slice hrow; subst hv5)
    all_goals
      go_wp2_with fail
      go_meet
      case rel => exact ⟨_, Hsnd, hide (((unhide Hk5).setCell (unhide Hty) (.inr (.inr rfl)) _) (mb + 1) _ 77 (unhide Hp3) (by decide) (by decide) (by decide)), hb5.setCell (p := ⟨mb, 1, none⟩) (by show W0.heap.size ≤ mb; omega) _⟩
  case rest =>
  obtain ⟨vr, HM4, Hp4, hb4⟩ := hcut
  clear q1 z1 hcp hlm hla a1 HM3 Hp3 hs3 hb3 hlp Hc24 HWd
  have hcp := cell_of_box (unhide Hp4)
  have hlp : mb + 1 < wc.heap.size := (Array.getElem?_eq_some_iff.1 (unhide Hp4)).1
  have hlm := (unhide HM4).box.lt
  obtain ⟨a, cap, hvw⟩ := ownsRow_slice (unhide HM4).wo
  rw [unhide Hjl] at hvw
  subst hvw
  have q0 := (unhide HM4).box.c0
  have Hc := hide (nmEach w.heap.size mb (mb + 1) cap a vr _ hs fs rs room wc (unhide HF) h256 (unhide HM4) (unhide Hp4))
  have Hfin : Hid (fW hs fs fs.length = mW hs fs (fun _ => false)) := by
    show joinW _ _ = joinW _ _
    rw [mkF_all _ _ (by have := (unhide HF).len; omega)]
  have hbw : Below w.heap.size w wc := hb0.trans (hb4.mono (by omega))
  clear HM4 Hp4 hb0 hb4
  go_wp2_with fail
  refine (unhide Hc).mono ?_
  rintro e w6 ⟨he, hM6, hp6, hb6, hk6⟩
  subst he
  have hc6 := cell_of_box hp6
  have hl6 : mb + 1 < w6.heap.size := (Array.getElem?_eq_some_iff.1 hp6).1
  have HM6 := hide hM6
  clear hM6 hp6 hk6 Hc
  go_wp2
  go_ret
  have h9 := unhide HM6
  rw [unhide Hfin] at h9
  exact ⟨⟨mb, _, vr, rfl, ⟨_, h9⟩⟩, hbw.trans hb6⟩

end Go.Proofs.Ytemjhdbmcdlpeaa

/- Walks: Mark. -/
namespace Go.Proofs.Ytemjhdbmcdlpeaa
set_option linter.unusedSimpArgs false
set_option linter.unusedVariables false
open Go.RowKit Go.Shelf

/-- What Mark tells of an arena that may be, and a room that may be. -/
def MrkOk (ws rs : List Int) (e : Ending) (W : World) : Prop :=
  ∃ hs fs p a c a' c', Arn hs fs rs ∧ ws = joinW hs fs ∧ (∀ j, p j = true ↔ Rch fs rs j) ∧ e = .returned (.tuple #[.agg #[.slice a (mW hs fs p).length c, .slice a' rs.length c'], .int .i64 0]) ∧ Wds W.heap.size W a (mW hs fs p) ∧ (mW hs fs p).length ≤ c ∧ Wds W.heap.size W a' rs

/-- What Mark tells. -/
def MrkRes (ws rs : List Int) (room : Int) (e : Ending) (W : World) : Prop :=
  (arenaE ws rs ≠ 0 ∧ e = .returned (.tuple #[.agg #[.slice none 0 0, .slice none 0 0], .int .i64 (arenaE ws rs)])) ∨
  (arenaE ws rs = 0 ∧ (room < 1 ∨ 64 < room) ∧ e = .returned (.tuple #[.agg #[.slice none 0 0, .slice none 0 0], .int .i64 3])) ∨
  (arenaE ws rs = 0 ∧ 1 ≤ room ∧ room ≤ 64 ∧ MrkOk ws rs e W)

theorem row_wds {w : World} {N mb : Nat} {l : List Int} {v u : Value} {off : Nat} (h : w.ownsRow N 56 1 v l.length (wordsV l)) (hl : l.length ≤ 256) (hb : mb < N) : ∃ a c, v = .slice a l.length c ∧ Wds w.heap.size w a l ∧ l.length ≤ c ∧ Hid (∀ b o, a = some ⟨b, o, none⟩ → N ≤ b) := by
  obtain ⟨a, c, hv, hW, hn⟩ := words_of_owns h rfl (by omega)
  refine ⟨a, c, hv, hW, ?_, hn⟩
  rcases h.2 with ⟨_, h0⟩ | ⟨g, cap', cur, hv', h1, h2, h3, h4, h5, h6⟩
  · omega
  · rw [hv] at hv'; injection hv' with _ _ e; omega

theorem wds_set {B N : Nat} {w : World} {a : Option Addr} {l : List Int} (h : Wds B w a l) (hn : Hid (∀ b o, a = some ⟨b, o, none⟩ → N ≤ b)) {p : Addr} (hp : p.block < N) (u : Value) : Wds B (w.setCell p u) a l := by
  refine ⟨h.1, fun hne => ?_⟩
  obtain ⟨b, off, rfl, hB, hc⟩ := h.2 hne
  have := unhide hn b off rfl
  refine ⟨b, off, rfl, hB, fun k v hk => ?_⟩
  rw [World.cell?_of_block (a := ⟨b, off + k, none⟩) (Below.heap_setCell _ _ _ _ (by show b ≠ _; omega))]
  exact hc k v hk

set_option maxRecDepth 100000 in
set_option maxHeartbeats 2000000 in
theorem mark_c (aw ar : Option Addr) (cw cr : Nat) (ws rs : List Int) (room : Int) (B : Nat) (w : World) (hW : Wds B w aw ws) (hR : Wds B w ar rs) (hUW : U64 ws) (hUR : U64 rs) (hB : B ≤ w.heap.size) (hcap : ws.length ≤ cw) :
    Calls Try.prog 19 #[.agg #[.slice aw ws.length cw, .slice ar rs.length cr], .int .i64 room] w fun e w' => MrkRes ws rs room e w' ∧ Below w.heap.size w w' := by
  obtain ⟨W1, hW1⟩ : ∃ W1, (w.alloc (.cells #[.slice aw ws.length cw, .slice ar rs.length cr] 24)).alloc (.cells #[.slice none 0 0, .slice none 0 0] 24) = W1 := ⟨_, rfl⟩
  have hb1 : Below w.heap.size w W1 := by rw [← hW1]; exact ((Below.refl w.heap.size w).alloc (Nat.le_refl _) _).alloc (by simp) _
  have hs1 : w.heap.size + 1 < W1.heap.size := by rw [← hW1]; simp
  have g0 : W1.cell? ⟨w.heap.size, 0, none⟩ = some (.slice aw ws.length cw) := by rw [← hW1]; simp [go_sem]
  have g1 : W1.cell? ⟨w.heap.size, 1, none⟩ = some (.slice ar rs.length cr) := by rw [← hW1]; simp [go_sem]
  have r0 : W1.cell? ⟨w.heap.size + 1, 0, none⟩ = some (.slice none 0 0) := by rw [← hW1]; simp [go_sem]
  have r1 : W1.cell? ⟨w.heap.size + 1, 1, none⟩ = some (.slice none 0 0) := by rw [← hW1]; simp [go_sem]
  have z0 : W1.frozen? ⟨w.heap.size + 1, 0, none⟩ = false := by rw [← hW1]; simp [go_sem]
  have z1 : W1.frozen? ⟨w.heap.size + 1, 1, none⟩ = false := by rw [← hW1]; simp [go_sem]
  have Hc1 := hide (acheck_c aw ar cw cr ws rs B W1 (hW.below (hb1.mono hB)) (hR.below (hb1.mono hB)) hUW hUR (by omega) hcap)
  go_enter Try.func19, Try.ntmps19
  go_wp2_with fail
  refine (unhide Hc1).mono ?_
  rintro e w2 ⟨rfl, hb2⟩
  clear hW1 Hc1
  have hs2 := hb2.size
  have hbw2 : Below w.heap.size w w2 := hb1.trans (hb2.mono (by omega))
  replace g0 := (hb2.cell (p := ⟨w.heap.size, 0, none⟩) (by simp; omega)).trans g0
  replace g1 := (hb2.cell (p := ⟨w.heap.size, 1, none⟩) (by simp; omega)).trans g1
  replace r0 := (hb2.cell (p := ⟨w.heap.size + 1, 0, none⟩) hs1).trans r0
  replace r1 := (hb2.cell (p := ⟨w.heap.size + 1, 1, none⟩) hs1).trans r1
  replace z0 := (hb2.frozen (p := ⟨w.heap.size + 1, 0, none⟩) hs1).trans z0
  replace z1 := (hb2.frozen (p := ⟨w.heap.size + 1, 1, none⟩) hs1).trans z1
  have hl2 : w.heap.size + 1 < w2.heap.size := by omega
  have hl2' : w.heap.size < w2.heap.size := by omega
  clear hb1 hb2
  by_cases hE : arenaE ws rs = 0
  · by_cases hr : room < 1 ∨ 64 < room
    · have HE := hide hE
      have Hr := hide hr
      rw [hE]
      have hfin : Hid (∀ W, Below w.heap.size w W → MrkRes ws rs room (.returned (.tuple #[.agg #[.slice none 0 0, .slice none 0 0], .int .i64 3])) W ∧ Below w.heap.size w W) := fun W h => ⟨.inr (.inl ⟨unhide HE, unhide Hr, rfl⟩), h⟩
      clear hE
      rcases hr with hr | hr
      · have d1 : decide (room < 1) = true := by simpa using hr
        go_wp2
        refine bodyPost_ret (v := .tuple #[.agg #[.slice none 0 0, .slice none 0 0], .int .i64 3]) (by simp [results, Try.results19, go_sem, r0, r1]) rfl (unhide hfin _ ((hbw2.setCell (p := ⟨w.heap.size + 1, 0, none⟩) (by simp) _).setCell (p := ⟨w.heap.size + 1, 1, none⟩) (by simp) _))
      · have d1 : decide (room < 1) = false := by simp; omega
        have d2 : decide (room > 64) = true := by simp; omega
        have d3 : decide (64 < room) = true := by simp; omega
        go_wp2
        refine bodyPost_ret (v := .tuple #[.agg #[.slice none 0 0, .slice none 0 0], .int .i64 3]) (by simp [results, Try.results19, go_sem, r0, r1]) rfl (unhide hfin _ ((hbw2.setCell (p := ⟨w.heap.size + 1, 0, none⟩) (by simp) _).setCell (p := ⟨w.heap.size + 1, 1, none⟩) (by simp) _))
    · obtain ⟨rN, rfl⟩ := Int.eq_ofNat_of_zero_le (show 0 ≤ room by omega)
      have hr1 : 1 ≤ rN := by omega
      have hr2 : rN ≤ 64 := by omega
      obtain ⟨hs, fs, hA, hws⟩ := arn_of hUW hUR hE
      have hjl : tot fs = ws.length := by rw [hws, joinW_len _ _ hA.fit.len]
      have HA := hide hA
      have Hws := hide hws
      have HE := hide hE
      rw [hE]
      have Hc2 : Hid (Calls Try.prog 37 #[.agg #[.slice aw ws.length cw, .slice ar rs.length cr], .int .i64 (rN : Nat)] w2 fun e w' => NmRes w2.heap.size hs fs rs rN e w' ∧ Below w2.heap.size w2 w') := by
        have := newMarker_c aw ar cw cr hs fs rs rN w2 hA hr1 hr2 (by rw [← hws]; exact (hW.below (hbw2.mono hB)).mono (by omega)) ((hR.below (hbw2.mono hB)).mono (by omega))
        rw [hjl] at this
        exact this
      have d1 : decide ((rN : Int) < 1) = false := by simp; omega
      have d2 : decide ((rN : Int) > 64) = false := by simp; omega
      have d3 : decide (64 < (rN : Int)) = false := by simp; omega
      clear hE hr hA hws hjl
      go_wp2_with fail
      refine (unhide Hc2).mono ?_
      rintro e w3 ⟨⟨mb, vw, vr, he, hM3⟩, hb3⟩
      subst he
      have Hc3 := hide (markAll_c hs fs rs w2.heap.size mb vw vr rN w3 hM3 (unhide HA) hr1 hr2)
      clear hM3 Hc2
      go_wp2_with fail
      refine (unhide Hc3).mono ?_
      rintro e w4 ⟨⟨he, p, ⟨vk, hM4⟩, hp4⟩, hb4, _⟩
      subst he
      have hs3 := hb3.size
      have hs4 := hb4.size
      have hb34 : Below w2.heap.size w2 w4 := hb3.trans hb4
      have hbw4 : Below w.heap.size w w4 := hbw2.trans (hb34.mono (by omega))
      replace r0 := (hb34.cell (p := ⟨w.heap.size + 1, 0, none⟩) hl2).trans r0
      replace r1 := (hb34.cell (p := ⟨w.heap.size + 1, 1, none⟩) hl2).trans r1
      replace z0 := (hb34.frozen (p := ⟨w.heap.size + 1, 0, none⟩) hl2).trans z0
      replace z1 := (hb34.frozen (p := ⟨w.heap.size + 1, 1, none⟩) hl2).trans z1
      have hml := mW_len (unhide HA).fit p
      obtain ⟨wa, wc, hvw, hWw, hwc, hwn⟩ := row_wds (mb := 0) (u := .bool true) (off := 0) hM4.wo (by rw [hml]; exact (unhide HA).n256) (by omega)
      obtain ⟨ra, rc, hvr, hWr, _, hrn⟩ := row_wds (mb := 0) (u := .bool true) (off := 0) hM4.ro (by have := (unhide HA).n8; omega) (by omega)
      subst hvw hvr
      have q0 := hM4.box.c0
      have q1 := hM4.box.c1
      have hlm := hM4.box.lt
      have hl4 : w.heap.size + 1 < w4.heap.size := by omega
      have hmb : w2.heap.size ≤ mb := hM4.lo
      have Hfin : Hid (∀ W, W = (w4.setCell ⟨w.heap.size + 1, 0, none⟩ (.slice wa (mW hs fs p).length wc)).setCell ⟨w.heap.size + 1, 1, none⟩ (.slice ra rs.length rc) → MrkRes ws rs (rN : Int) (.returned (.tuple #[.agg #[.slice wa (mW hs fs p).length wc, .slice ra rs.length rc], .int .i64 0])) W ∧ Below w.heap.size w W) := fun W h => by
        subst h
        have hsz : ((w4.setCell ⟨w.heap.size + 1, 0, none⟩ (.slice wa (mW hs fs p).length wc)).setCell ⟨w.heap.size + 1, 1, none⟩ (.slice ra rs.length rc)).heap.size = w4.heap.size := by simp [World.setCell]
        refine ⟨.inr (.inr ⟨unhide HE, by omega, by omega, hs, fs, p, wa, wc, ra, rc, unhide HA, unhide Hws, hp4, rfl, ?_, hwc, ?_⟩), (hbw4.setCell (p := ⟨w.heap.size + 1, 0, none⟩) (by simp) _).setCell (p := ⟨w.heap.size + 1, 1, none⟩) (by simp) _⟩
        · rw [hsz]; exact wds_set (wds_set hWw hwn (by show w.heap.size + 1 < _; omega) _) hwn (by show w.heap.size + 1 < _; omega) _
        · rw [hsz]; exact wds_set (wds_set hWr hrn (by show w.heap.size + 1 < _; omega) _) hrn (by show w.heap.size + 1 < _; omega) _
      clear hM4 hp4 hml hWw hWr hwn hrn Hc3 hb3 hb4 hb34 hwc
      generalize (mW hs fs p).length = n at *
      go_wp2
      exact bodyPost_ret (v := .tuple #[.agg #[.slice wa n wc, .slice ra rs.length rc], .int .i64 0]) (by simp [results, Try.results19, go_sem, r0, r1]) rfl (unhide Hfin _ rfl)
  · have HE := hide hE
    have hfin : Hid (∀ W, Below w.heap.size w W → MrkRes ws rs room (.returned (.tuple #[.agg #[.slice none 0 0, .slice none 0 0], .int .i64 (arenaE ws rs)])) W ∧ Below w.heap.size w W) := fun W h => ⟨.inl ⟨unhide HE, rfl⟩, h⟩
    generalize arenaE ws rs = E at *
    have d0 : (E != 0) = true := by simpa using hE
    clear hE
    go_wp2
    refine bodyPost_ret (v := .tuple #[.agg #[.slice none 0 0, .slice none 0 0], .int .i64 E]) (by simp [results, Try.results19, go_sem, r0, r1]) rfl (unhide hfin _ ((hbw2.setCell (p := ⟨w.heap.size + 1, 0, none⟩) (by simp) _).setCell (p := ⟨w.heap.size + 1, 1, none⟩) (by simp) _))

end Go.Proofs.Ytemjhdbmcdlpeaa

/- Walks: Mark, in memory of its own. -/
namespace Go.Proofs.Ytemjhdbmcdlpeaa
set_option linter.unusedSimpArgs false
set_option linter.unusedVariables false
open Go.RowKit Go.Shelf

/-- What Mark tells of an arena that may be, and a room that may be: its words and its roots lie each in a row of its own. -/
def MrkOwn (N : Nat) (ws rs : List Int) (e : Ending) (W : World) : Prop :=
  ∃ hs fs p a c a' c', Arn hs fs rs ∧ ws = joinW hs fs ∧ (∀ j, p j = true ↔ Rch fs rs j) ∧ e = .returned (.tuple #[.agg #[.slice a (mW hs fs p).length c, .slice a' rs.length c'], .int .i64 0]) ∧
    W.ownsRow N 56 1 (.slice a (mW hs fs p).length c) (mW hs fs p).length (wordsV (mW hs fs p)) ∧ W.ownsRow N 56 1 (.slice a' rs.length c') rs.length (wordsV rs) ∧ ∀ k, (Value.slice a (mW hs fs p).length c).ownBlock = some k → (Value.slice a' rs.length c').ownBlock ≠ some k

/-- What Mark tells. -/
def MrkResO (N : Nat) (ws rs : List Int) (room : Int) (e : Ending) (W : World) : Prop :=
  (arenaE ws rs ≠ 0 ∧ e = .returned (.tuple #[.agg #[.slice none 0 0, .slice none 0 0], .int .i64 (arenaE ws rs)])) ∨
  (arenaE ws rs = 0 ∧ (room < 1 ∨ 64 < room) ∧ e = .returned (.tuple #[.agg #[.slice none 0 0, .slice none 0 0], .int .i64 3])) ∨
  (arenaE ws rs = 0 ∧ 1 ≤ room ∧ room ≤ 64 ∧ MrkOwn N ws rs e W)

set_option maxRecDepth 100000 in
set_option maxHeartbeats 2000000 in
theorem markO_c (aw ar : Option Addr) (cw cr : Nat) (ws rs : List Int) (room : Int) (B : Nat) (w : World) (hW : Wds B w aw ws) (hR : Wds B w ar rs) (hUW : U64 ws) (hUR : U64 rs) (hB : B ≤ w.heap.size) (hcap : ws.length ≤ cw) :
    Calls Try.prog 19 #[.agg #[.slice aw ws.length cw, .slice ar rs.length cr], .int .i64 room] w fun e w' => MrkResO w.heap.size ws rs room e w' ∧ Below w.heap.size w w' := by
  obtain ⟨W1, hW1⟩ : ∃ W1, (w.alloc (.cells #[.slice aw ws.length cw, .slice ar rs.length cr] 24)).alloc (.cells #[.slice none 0 0, .slice none 0 0] 24) = W1 := ⟨_, rfl⟩
  have hb1 : Below w.heap.size w W1 := by rw [← hW1]; exact ((Below.refl w.heap.size w).alloc (Nat.le_refl _) _).alloc (by simp) _
  have hs1 : w.heap.size + 1 < W1.heap.size := by rw [← hW1]; simp
  have g0 : W1.cell? ⟨w.heap.size, 0, none⟩ = some (.slice aw ws.length cw) := by rw [← hW1]; simp [go_sem]
  have g1 : W1.cell? ⟨w.heap.size, 1, none⟩ = some (.slice ar rs.length cr) := by rw [← hW1]; simp [go_sem]
  have r0 : W1.cell? ⟨w.heap.size + 1, 0, none⟩ = some (.slice none 0 0) := by rw [← hW1]; simp [go_sem]
  have r1 : W1.cell? ⟨w.heap.size + 1, 1, none⟩ = some (.slice none 0 0) := by rw [← hW1]; simp [go_sem]
  have z0 : W1.frozen? ⟨w.heap.size + 1, 0, none⟩ = false := by rw [← hW1]; simp [go_sem]
  have z1 : W1.frozen? ⟨w.heap.size + 1, 1, none⟩ = false := by rw [← hW1]; simp [go_sem]
  have Hc1 := hide (acheck_c aw ar cw cr ws rs B W1 (hW.below (hb1.mono hB)) (hR.below (hb1.mono hB)) hUW hUR (by omega) hcap)
  go_enter Try.func19, Try.ntmps19
  go_wp2_with fail
  refine (unhide Hc1).mono ?_
  rintro e w2 ⟨rfl, hb2⟩
  clear hW1 Hc1
  have hs2 := hb2.size
  have hbw2 : Below w.heap.size w w2 := hb1.trans (hb2.mono (by omega))
  replace g0 := (hb2.cell (p := ⟨w.heap.size, 0, none⟩) (by simp; omega)).trans g0
  replace g1 := (hb2.cell (p := ⟨w.heap.size, 1, none⟩) (by simp; omega)).trans g1
  replace r0 := (hb2.cell (p := ⟨w.heap.size + 1, 0, none⟩) hs1).trans r0
  replace r1 := (hb2.cell (p := ⟨w.heap.size + 1, 1, none⟩) hs1).trans r1
  replace z0 := (hb2.frozen (p := ⟨w.heap.size + 1, 0, none⟩) hs1).trans z0
  replace z1 := (hb2.frozen (p := ⟨w.heap.size + 1, 1, none⟩) hs1).trans z1
  have hl2 : w.heap.size + 1 < w2.heap.size := by omega
  have hl2' : w.heap.size < w2.heap.size := by omega
  clear hb1 hb2
  by_cases hE : arenaE ws rs = 0
  · by_cases hr : room < 1 ∨ 64 < room
    · have HE := hide hE
      have Hr := hide hr
      rw [hE]
      have hfin : Hid (∀ W, Below w.heap.size w W → MrkResO w.heap.size ws rs room (.returned (.tuple #[.agg #[.slice none 0 0, .slice none 0 0], .int .i64 3])) W ∧ Below w.heap.size w W) := fun W h => ⟨.inr (.inl ⟨unhide HE, unhide Hr, rfl⟩), h⟩
      clear hE
      rcases hr with hr | hr
      · have d1 : decide (room < 1) = true := by simpa using hr
        go_wp2
        refine bodyPost_ret (v := .tuple #[.agg #[.slice none 0 0, .slice none 0 0], .int .i64 3]) (by simp [results, Try.results19, go_sem, r0, r1]) rfl (unhide hfin _ ((hbw2.setCell (p := ⟨w.heap.size + 1, 0, none⟩) (by simp) _).setCell (p := ⟨w.heap.size + 1, 1, none⟩) (by simp) _))
      · have d1 : decide (room < 1) = false := by simp; omega
        have d2 : decide (room > 64) = true := by simp; omega
        have d3 : decide (64 < room) = true := by simp; omega
        go_wp2
        refine bodyPost_ret (v := .tuple #[.agg #[.slice none 0 0, .slice none 0 0], .int .i64 3]) (by simp [results, Try.results19, go_sem, r0, r1]) rfl (unhide hfin _ ((hbw2.setCell (p := ⟨w.heap.size + 1, 0, none⟩) (by simp) _).setCell (p := ⟨w.heap.size + 1, 1, none⟩) (by simp) _))
    · obtain ⟨rN, rfl⟩ := Int.eq_ofNat_of_zero_le (show 0 ≤ room by omega)
      have hr1 : 1 ≤ rN := by omega
      have hr2 : rN ≤ 64 := by omega
      obtain ⟨hs, fs, hA, hws⟩ := arn_of hUW hUR hE
      have hjl : tot fs = ws.length := by rw [hws, joinW_len _ _ hA.fit.len]
      have HA := hide hA
      have Hws := hide hws
      have HE := hide hE
      rw [hE]
      have Hc2 : Hid (Calls Try.prog 37 #[.agg #[.slice aw ws.length cw, .slice ar rs.length cr], .int .i64 (rN : Nat)] w2 fun e w' => NmRes w2.heap.size hs fs rs rN e w' ∧ Below w2.heap.size w2 w') := by
        have := newMarker_c aw ar cw cr hs fs rs rN w2 hA hr1 hr2 (by rw [← hws]; exact (hW.below (hbw2.mono hB)).mono (by omega)) ((hR.below (hbw2.mono hB)).mono (by omega))
        rw [hjl] at this
        exact this
      have d1 : decide ((rN : Int) < 1) = false := by simp; omega
      have d2 : decide ((rN : Int) > 64) = false := by simp; omega
      have d3 : decide (64 < (rN : Int)) = false := by simp; omega
      clear hE hr hA hws hjl
      go_wp2_with fail
      refine (unhide Hc2).mono ?_
      rintro e w3 ⟨⟨mb, vw, vr, he, hM3⟩, hb3⟩
      subst he
      have Hc3 := hide (markAll_c hs fs rs w2.heap.size mb vw vr rN w3 hM3 (unhide HA) hr1 hr2)
      clear hM3 Hc2
      go_wp2_with fail
      refine (unhide Hc3).mono ?_
      rintro e w4 ⟨⟨he, p, ⟨vk, hM4⟩, hp4⟩, hb4, _⟩
      subst he
      have hs3 := hb3.size
      have hs4 := hb4.size
      have hb34 : Below w2.heap.size w2 w4 := hb3.trans hb4
      have hbw4 : Below w.heap.size w w4 := hbw2.trans (hb34.mono (by omega))
      replace r0 := (hb34.cell (p := ⟨w.heap.size + 1, 0, none⟩) hl2).trans r0
      replace r1 := (hb34.cell (p := ⟨w.heap.size + 1, 1, none⟩) hl2).trans r1
      replace z0 := (hb34.frozen (p := ⟨w.heap.size + 1, 0, none⟩) hl2).trans z0
      replace z1 := (hb34.frozen (p := ⟨w.heap.size + 1, 1, none⟩) hl2).trans z1
      have hml := mW_len (unhide HA).fit p
      obtain ⟨wa, wc, hvw, hWw, hwc, hwn⟩ := row_wds (mb := 0) (u := .bool true) (off := 0) hM4.wo (by rw [hml]; exact (unhide HA).n256) (by omega)
      obtain ⟨ra, rc, hvr, hWr, _, hrn⟩ := row_wds (mb := 0) (u := .bool true) (off := 0) hM4.ro (by have := (unhide HA).n8; omega) (by omega)
      subst hvw hvr
      have q0 := hM4.box.c0
      have q1 := hM4.box.c1
      have hlm := hM4.box.lt
      have hl4 : w.heap.size + 1 < w4.heap.size := by omega
      have hmb : w2.heap.size ≤ mb := hM4.lo
      have Hfin : Hid (∀ W, W = (w4.setCell ⟨w.heap.size + 1, 0, none⟩ (.slice wa (mW hs fs p).length wc)).setCell ⟨w.heap.size + 1, 1, none⟩ (.slice ra rs.length rc) → MrkResO w.heap.size ws rs (rN : Int) (.returned (.tuple #[.agg #[.slice wa (mW hs fs p).length wc, .slice ra rs.length rc], .int .i64 0])) W ∧ Below w.heap.size w W) := fun W h => by
        subst h
        have hsz : ((w4.setCell ⟨w.heap.size + 1, 0, none⟩ (.slice wa (mW hs fs p).length wc)).setCell ⟨w.heap.size + 1, 1, none⟩ (.slice ra rs.length rc)).heap.size = w4.heap.size := by simp [World.setCell]
        have hwo := Joins.ownsRow_le (base' := w.heap.size) (ownsRow_setCell_below (ownsRow_setCell_below hM4.wo (a := ⟨w.heap.size + 1, 0, none⟩) (by show w.heap.size + 1 < _; omega) (.slice wa (mW hs fs p).length wc)) (a := ⟨w.heap.size + 1, 1, none⟩) (by show w.heap.size + 1 < _; omega) (.slice ra rs.length rc)) (by omega)
        have hro := Joins.ownsRow_le (base' := w.heap.size) (ownsRow_setCell_below (ownsRow_setCell_below hM4.ro (a := ⟨w.heap.size + 1, 0, none⟩) (by show w.heap.size + 1 < _; omega) (.slice wa (mW hs fs p).length wc)) (a := ⟨w.heap.size + 1, 1, none⟩) (by show w.heap.size + 1 < _; omega) (.slice ra rs.length rc)) (by omega)
        exact ⟨.inr (.inr ⟨unhide HE, by omega, by omega, hs, fs, p, wa, wc, ra, rc, unhide HA, unhide Hws, hp4, rfl, hwo, hro, hM4.wr⟩), (hbw4.setCell (p := ⟨w.heap.size + 1, 0, none⟩) (by simp) _).setCell (p := ⟨w.heap.size + 1, 1, none⟩) (by simp) _⟩
      clear hM4 hp4 hml hWw hWr hwn hrn Hc3 hb3 hb4 hb34 hwc
      generalize (mW hs fs p).length = n at *
      go_wp2
      exact bodyPost_ret (v := .tuple #[.agg #[.slice wa n wc, .slice ra rs.length rc], .int .i64 0]) (by simp [results, Try.results19, go_sem, r0, r1]) rfl (unhide Hfin _ rfl)
  · have HE := hide hE
    have hfin : Hid (∀ W, Below w.heap.size w W → MrkResO w.heap.size ws rs room (.returned (.tuple #[.agg #[.slice none 0 0, .slice none 0 0], .int .i64 (arenaE ws rs)])) W ∧ Below w.heap.size w W) := fun W h => ⟨.inl ⟨unhide HE, rfl⟩, h⟩
    generalize arenaE ws rs = E at *
    have d0 : (E != 0) = true := by simpa using hE
    clear hE
    go_wp2
    refine bodyPost_ret (v := .tuple #[.agg #[.slice none 0 0, .slice none 0 0], .int .i64 E]) (by simp [results, Try.results19, go_sem, r0, r1]) rfl (unhide hfin _ ((hbw2.setCell (p := ⟨w.heap.size + 1, 0, none⟩) (by simp) _).setCell (p := ⟨w.heap.size + 1, 1, none⟩) (by simp) _))

end Go.Proofs.Ytemjhdbmcdlpeaa

/- Walks: Squeeze. -/
namespace Go.Proofs.Ytemjhdbmcdlpeaa
set_option linter.unusedSimpArgs false
set_option linter.unusedVariables false
open Go.RowKit Go.Shelf

/-- The words of the arena whose holes are filled. -/
def fuL (hs : List Int) (fs : List (List Int)) (rs : List Int) : List Int := joinW (sH hs (fgL (rL fs rs))) (sF fs (fgL (rL fs rs)))
def fuR (fs : List (List Int)) (rs : List Int) : List Int := sR fs (fgL (rL fs rs)) rs

/-- What Squeeze tells. -/
def SqRes (base : Nat) (ws rs : List Int) (F : Int) (e : Ending) (W : World) : Prop :=
  (arenaE ws rs ≠ 0 ∧ e = .returned (.tuple #[.agg #[.slice none 0 0, .slice none 0 0], .int .i64 0, .int .i64 (arenaE ws rs)])) ∨
  (arenaE ws rs = 0 ∧ (F < 0 ∨ 4 < F) ∧ e = .returned (.tuple #[.agg #[.slice none 0 0, .slice none 0 0], .int .i64 0, .int .i64 3])) ∨
  (arenaE ws rs = 0 ∧ 0 ≤ F ∧ F ≤ 4 ∧ ∃ hs fs, Arn hs fs rs ∧ ws = joinW hs fs ∧
    ((¬ Unif (F.toNat + 1) fs ∧ e = .returned (.tuple #[.agg #[.slice none 0 0, .slice none 0 0], .int .i64 0, .int .i64 4])) ∨
     (Unif (F.toNat + 1) fs ∧ ∃ a c a' c', e = .returned (.tuple #[.agg #[.slice a (fuL hs fs rs).length c, .slice a' rs.length c'], .int .i64 (fgT (rL fs rs) : Nat), .int .i64 0]) ∧ WdsF base W a (fuL hs fs rs) ∧ (fuL hs fs rs).length ≤ c ∧ WdsF base W a' (fuR fs rs))))

theorem turner_c (mb : Nat) (w : World) : Calls Try.prog 24 #[.map (some mb)] w fun e w' => e = .returned (.func (.func 42) #[] #[.pointer (some ⟨w.heap.size, 0, none⟩)]) ∧ w' = w.alloc (.cells #[.map (some mb)] 52) := by
  go_enter Try.func24, Try.ntmps24
  go_wp2
  go_ret
  exact ⟨rfl, rfl⟩

theorem own_pick {W : World} {N n c : Nat} {a : Option Addr} {ws : List Int} (h : W.ownsRow N 56 1 (.slice a n c) n (wordsV ws)) (M : Nat) : ∃ g, (n ≠ 0 → a = some ⟨g, 0, none⟩ ∧ N ≤ g ∧ g < W.heap.size) ∧ (n = 0 → g = M) ∧ n ≤ c ∧ (a = none → c = 0) := by
  have hnc : n ≤ c ∧ (a = none → c = 0) := by
    rcases h.2 with ⟨hv, h0⟩ | ⟨g, cap, cur, hv, _, _, h1, _⟩
    · injection hv with e1 _ e3; subst e1 e3; exact ⟨by omega, fun _ => rfl⟩
    · injection hv with e1 _ e3; subst e1 e3; exact ⟨h1, fun e => by cases e⟩
  by_cases hn : n = 0
  · exact ⟨M, fun h => absurd hn h, fun _ => rfl, hnc⟩
  · obtain ⟨g, cap, hv⟩ := Joins.ownsRow_form h (by omega)
    injection hv with e1 _ e3
    subst e1 e3
    have := h.lt g rfl
    exact ⟨g, fun _ => ⟨rfl, this⟩, fun e => absurd e hn, hnc⟩

set_option maxRecDepth 100000 in
set_option maxHeartbeats 4000000 in
theorem squeeze_c (aw ar : Option Addr) (cw cr : Nat) (ws rs : List Int) (F : Int) (B : Nat) (w : World) (hW : Wds B w aw ws) (hR : Wds B w ar rs) (hUW : U64 ws) (hUR : U64 rs) (hB : B ≤ w.heap.size) (hcap : ws.length ≤ cw) :
    Calls Try.prog 6 #[.agg #[.slice aw ws.length cw, .slice ar rs.length cr], .int .i64 F] w fun e w' => SqRes w.heap.size ws rs F e w' ∧ Below w.heap.size w w' := by
  obtain ⟨W0, hW0⟩ : ∃ W0, (w.alloc (.cells #[.slice aw ws.length cw, .slice ar rs.length cr] 24)).alloc (.cells #[.slice none 0 0, .slice none 0 0] 24) = W0 := ⟨_, rfl⟩
  have hb0 : Below w.heap.size w W0 := by rw [← hW0]; exact ((Below.refl w.heap.size w).alloc (Nat.le_refl _) _).alloc (by simp) _
  have hs0 : w.heap.size + 1 < W0.heap.size := by rw [← hW0]; simp
  have g0 : W0.cell? ⟨w.heap.size, 0, none⟩ = some (.slice aw ws.length cw) := by rw [← hW0]; simp [go_sem]
  have g1 : W0.cell? ⟨w.heap.size, 1, none⟩ = some (.slice ar rs.length cr) := by rw [← hW0]; simp [go_sem]
  have r0 : W0.cell? ⟨w.heap.size + 1, 0, none⟩ = some (.slice none 0 0) := by rw [← hW0]; simp [go_sem]
  have r1 : W0.cell? ⟨w.heap.size + 1, 1, none⟩ = some (.slice none 0 0) := by rw [← hW0]; simp [go_sem]
  have z0 : W0.frozen? ⟨w.heap.size + 1, 0, none⟩ = false := by rw [← hW0]; simp [go_sem]
  have z1 : W0.frozen? ⟨w.heap.size + 1, 1, none⟩ = false := by rw [← hW0]; simp [go_sem]
  have Hc1 := hide (markO_c aw ar cw cr ws rs 64 B W0 (hW.below (hb0.mono hB)) (hR.below (hb0.mono hB)) hUW hUR (by omega) hcap)
  clear hW hR hUW hUR hcap
  go_enter Try.func6, Try.ntmps6
  go_wp2_with fail
  refine (unhide Hc1).mono ?_
  rintro e w1 ⟨hres, hb1⟩
  clear hW0 Hc1
  have hs1 := hb1.size
  replace g0 := (hb1.cell (p := ⟨w.heap.size, 0, none⟩) (by simp; omega)).trans g0
  replace g1 := (hb1.cell (p := ⟨w.heap.size, 1, none⟩) (by simp; omega)).trans g1
  replace r0 := (hb1.cell (p := ⟨w.heap.size + 1, 0, none⟩) hs0).trans r0
  replace r1 := (hb1.cell (p := ⟨w.heap.size + 1, 1, none⟩) hs0).trans r1
  replace z0 := (hb1.frozen (p := ⟨w.heap.size + 1, 0, none⟩) hs0).trans z0
  replace z1 := (hb1.frozen (p := ⟨w.heap.size + 1, 1, none⟩) hs0).trans z1
  have hbw1 : Below w.heap.size w w1 := hb0.trans (hb1.mono (by omega))
  have hl1 : w.heap.size + 1 < w1.heap.size := by omega
  have hl1' : w.heap.size < w1.heap.size := by omega
  clear hb0 hb1
  rcases hres with ⟨hE, he⟩ | ⟨_, hr, _⟩ | ⟨hE, _, _, hs, fs, p, a, c, a', c', hA, hws, hp, he, hWo, hRo, hapart⟩
  · subst he
    have HE := hide hE
    have dE : (arenaE ws rs != 0) = true := by simpa using hE
    clear hE
    generalize hEe : arenaE ws rs = E at *
    have HEe := hide hEe
    clear hEe
    have Hrd : Hid (∀ o, ((((w1.setCell ⟨w.heap.size + 1, 0, none⟩ (.slice none 0 0)).setCell ⟨w.heap.size + 1, 1, none⟩ (.slice none 0 0)).alloc o).cell? ⟨w.heap.size + 1, 0, none⟩ = some (.slice none 0 0)) ∧ ((((w1.setCell ⟨w.heap.size + 1, 0, none⟩ (.slice none 0 0)).setCell ⟨w.heap.size + 1, 1, none⟩ (.slice none 0 0)).alloc o).cell? ⟨w.heap.size + 1, 1, none⟩ = some (.slice none 0 0))) := fun o => by
      have hl : w.heap.size + 1 < ((w1.setCell ⟨w.heap.size + 1, 0, none⟩ (.slice none 0 0)).setCell ⟨w.heap.size + 1, 1, none⟩ (.slice none 0 0)).heap.size := by simp [World.setCell]; exact hl1
      have hb := (Below.refl ((w1.setCell ⟨w.heap.size + 1, 0, none⟩ (.slice none 0 0)).setCell ⟨w.heap.size + 1, 1, none⟩ (.slice none 0 0)).heap.size _).alloc (Nat.le_refl _) o
      refine ⟨(hb.cell (p := ⟨w.heap.size + 1, 0, none⟩) hl).trans (by simp [go_sem, r0, r1]), (hb.cell (p := ⟨w.heap.size + 1, 1, none⟩) hl).trans (by simp [go_sem, r0, r1])⟩
    go_wp2
    have h0 := (unhide Hrd (.cells #[.slice none 0 0, .slice none 0 0] 24)).1
    have h1 := (unhide Hrd (.cells #[.slice none 0 0, .slice none 0 0] 24)).2
    refine bodyPost_ret (v := .tuple #[.agg #[.slice none 0 0, .slice none 0 0], .int .i64 0, .int .i64 E]) (by simp [results, Try.results6, go_sem, h0, h1]) rfl ?_
    refine ⟨.inl ⟨by rw [unhide HEe]; exact unhide HE, by rw [unhide HEe]⟩, ?_⟩
    exact ((hbw1.setCell (p := ⟨w.heap.size + 1, 0, none⟩) (by simp) _).setCell (p := ⟨w.heap.size + 1, 1, none⟩) (by simp) _).alloc (by simp [World.setCell]; omega) _
  · exact absurd hr (by omega)
  · subst he
    have hml := mW_len hA.fit p
    have h256 := hA.n256
    have Hac := hide (fun (W : World) (N s : Nat) (a : Option Addr) (cap : Nat) (h1 : s ≤ 5) (h2 : Wds N W a (mW hs fs p)) (h3 : N ≤ W.heap.size) => allHave_c a cap hs fs p s N W hA.fit h256 h1 h2 h3)
    have Htl : Hid (fs.length ≤ tot fs) := tot_len fs
    have Hua : Hid (∀ s, Unif s fs → tot fs = fs.length * s) := fun s h => h.all
    have Hfc := hide (fun (w : World) (s gw N2 T : Nat) (a : Option Addr) (cw : Nat) => fill_c a cw hs fs p s gw N2 T w hA.fit)
    rw [hml] at hWo hapart ⊢
    generalize hTe : tot fs = T at *
    have HTe := hide hTe
    have Hml := hide hml
    clear hml hTe
    obtain ⟨W1, hW1⟩ : ∃ W1, w1.alloc (.cells #[.slice a (T : Nat) c, .slice a' rs.length c'] 24) = W1 := ⟨_, rfl⟩
    have hb1 : Below w1.heap.size w1 W1 := by rw [← hW1]; exact (Below.refl _ _).alloc (Nat.le_refl _) _
    have hs1' : w1.heap.size < W1.heap.size := by rw [← hW1]; simp
    have k0 : W1.cell? ⟨w1.heap.size, 0, none⟩ = some (.slice a (T : Nat) c) := by rw [← hW1]; simp [go_sem]
    have k1 : W1.cell? ⟨w1.heap.size, 1, none⟩ = some (.slice a' rs.length c') := by rw [← hW1]; simp [go_sem]
    have hbW1 : Below w.heap.size w W1 := hbw1.trans (hb1.mono (by omega))
    replace r0 := (hb1.cell (p := ⟨w.heap.size + 1, 0, none⟩) hl1).trans r0
    replace r1 := (hb1.cell (p := ⟨w.heap.size + 1, 1, none⟩) hl1).trans r1
    replace z0 := (hb1.frozen (p := ⟨w.heap.size + 1, 0, none⟩) hl1).trans z0
    replace z1 := (hb1.frozen (p := ⟨w.heap.size + 1, 1, none⟩) hl1).trans z1
    have hlW : w.heap.size + 1 < W1.heap.size := by omega
    have HE := hide hE
    have Hws := hide hws
    have HA := hide hA
    have Hp := hide hp
    by_cases hF : F < 0 ∨ 4 < F
    · have Hfin : Hid (∀ W, Below w.heap.size w W → SqRes w.heap.size ws rs F (.returned (.tuple #[.agg #[.slice none 0 0, .slice none 0 0], .int .i64 0, .int .i64 3])) W ∧ Below w.heap.size w W) := fun W h => ⟨.inr (.inl ⟨unhide HE, hF, rfl⟩), h⟩
      clear hE hA hws hp hWo hRo hapart g0 g1 k0 k1
      rcases hF with hF | hF
      · have d1 : decide (F < 0) = true := by simpa using hF
        go_wp2
        refine bodyPost_ret (v := .tuple #[.agg #[.slice none 0 0, .slice none 0 0], .int .i64 0, .int .i64 3]) (by simp [results, Try.results6, go_sem, r0, r1]) rfl (unhide Hfin _ ((hbW1.setCell (p := ⟨w.heap.size + 1, 0, none⟩) (by simp) _).setCell (p := ⟨w.heap.size + 1, 1, none⟩) (by simp) _))
      · have d1 : decide (F < 0) = false := by simp; omega
        have d2 : decide (F > 4) = true := by simp; omega
        have d3 : decide (4 < F) = true := by simp; omega
        go_wp2
        refine bodyPost_ret (v := .tuple #[.agg #[.slice none 0 0, .slice none 0 0], .int .i64 0, .int .i64 3]) (by simp [results, Try.results6, go_sem, r0, r1]) rfl (unhide Hfin _ ((hbW1.setCell (p := ⟨w.heap.size + 1, 0, none⟩) (by simp) _).setCell (p := ⟨w.heap.size + 1, 1, none⟩) (by simp) _))
    · obtain ⟨f, rfl⟩ := Int.eq_ofNat_of_zero_le (show 0 ≤ F by omega)
      have hf4 : f ≤ 4 := by omega
      have d1 : decide ((f : Int) < 0) = false := by simp
      have d2 : decide ((f : Int) > 4) = false := by simp; omega
      have d3 : decide (4 < (f : Int)) = false := by simp; omega
      obtain ⟨s, hsf⟩ : ∃ s, s = f + 1 := ⟨_, rfl⟩
      have hwf : IntKind.i64.wrap (1 + (f : Int)) = (s : Int) := by rw [IntKind.wrap_i64]; omega
      have hs1 : 1 ≤ s := by omega
      have hs5 : s ≤ 5 := by omega
      have Hsf := hide hsf
      clear hsf
      have Hlw := hide (fun k (h : (Value.slice a (T) c).ownBlock = some k) => hWo.lt k h)
      have Hlr := hide (fun k (h : (Value.slice a' rs.length c').ownBlock = some k) => hRo.lt k h)
      have hWo1 := ownsRow_below hWo (hb1.mono (Nat.le_refl _))
      have hRo1 := ownsRow_below hRo (hb1.mono (Nat.le_refl _))
      obtain ⟨a2, c2, hv2, hWds, _⟩ := words_of_owns hWo1 (unhide Hml).symm (by omega)
      injection hv2 with e1 e0 e2
      clear e0
      subst e1
      have Hc2 := hide (unhide Hac W1 W1.heap.size s a c hs5 hWds (Nat.le_refl _))
      have HWo := hide hWo1
      have HRo := hide hRo1
      have Hap := hide hapart
      clear hE hA hws hp hWo hRo hWo1 hRo1 hapart hWds e2 g0 g1
      go_wp2_with fail
      refine (unhide Hc2).mono ?_
      rintro e w2 ⟨⟨b, rfl, hb⟩, hb2⟩
      have Hb := hide hb
      clear hb hW1 Hc2
      have hs2 := hb2.size
      have hbw2 : Below w.heap.size w w2 := hbW1.trans (hb2.mono (by omega))
      replace r0 := (hb2.cell (p := ⟨w.heap.size + 1, 0, none⟩) hlW).trans r0
      replace r1 := (hb2.cell (p := ⟨w.heap.size + 1, 1, none⟩) hlW).trans r1
      replace z0 := (hb2.frozen (p := ⟨w.heap.size + 1, 0, none⟩) hlW).trans z0
      replace z1 := (hb2.frozen (p := ⟨w.heap.size + 1, 1, none⟩) hlW).trans z1
      replace k0 := (hb2.cell (p := ⟨w1.heap.size, 0, none⟩) hs1').trans k0
      replace k1 := (hb2.cell (p := ⟨w1.heap.size, 1, none⟩) hs1').trans k1
      have hl2 : w.heap.size + 1 < w2.heap.size := by omega
      have hl2' : w1.heap.size < w2.heap.size := by omega
      have HWo2 := hide (ownsRow_below (unhide HWo) hb2)
      have HRo2 := hide (ownsRow_below (unhide HRo) hb2)
      clear HWo HRo hb2 hb1 hbW1 hbw1
      cases b
      · have Hfin : Hid (∀ W, Below w.heap.size w W → SqRes w.heap.size ws rs (f : Int) (.returned (.tuple #[.agg #[.slice none 0 0, .slice none 0 0], .int .i64 0, .int .i64 4])) W ∧ Below w.heap.size w W) := fun W h => ⟨.inr (.inr ⟨unhide HE, by omega, by omega, hs, fs, unhide HA, unhide Hws, .inl ⟨by rw [Int.toNat_natCast, ← unhide Hsf]; intro h; exact absurd ((unhide Hb).2 h) (by simp), rfl⟩⟩), h⟩
        clear HE HA Hws Hp HWo2 HRo2 Hap Hb k0 k1
        go_wp2
        refine bodyPost_ret (v := .tuple #[.agg #[.slice none 0 0, .slice none 0 0], .int .i64 0, .int .i64 4]) (by simp [results, Try.results6, go_sem, r0, r1]) rfl (unhide Hfin _ ((hbw2.setCell (p := ⟨w.heap.size + 1, 0, none⟩) (by simp) _).setCell (p := ⟨w.heap.size + 1, 1, none⟩) (by simp) _))
      · have Hu : Hid (Unif s fs) := (unhide Hb).1 rfl
        clear Hb
        have HT := hide (unhide Hua s (unhide Hu))
        obtain ⟨gw, hgw1, hgw2, hgc, hga⟩ := own_pick (unhide HWo2) (w2.heap.size + 1)
        have hgl : T ≠ 0 → gw < w1.heap.size := fun h => (unhide Hlw gw (by rw [(hgw1 h).1]; rfl)).2
        have hgN : W0.heap.size ≤ gw := by
          by_cases h : T = 0
          · rw [hgw2 h]; omega
          · exact (hgw1 h).2.1
        have hgm : gw ≠ w2.heap.size := by
          by_cases h : T = 0
          · rw [hgw2 h]; omega
          · have := hgl h; omega
        have hgk : gw ≠ w1.heap.size := by
          by_cases h : T = 0
          · rw [hgw2 h]; omega
          · have := hgl h; omega
        have Hc4 := hide (unhide Hfc w2 s gw W0.heap.size T a c (unhide Hu) hs1 hs5 (unhide HT) h256 hgc hgm (fun hne => by
          have hn : T ≠ 0 := by
            have h1 := unhide Htl
            have h2 : 0 < fs.length := Nat.pos_of_ne_zero (fun h => hne (List.eq_nil_of_length_eq_zero h))
            omega
          have h := (hgw1 hn).1
          subst h
          exact ⟨rfl, unhide HWo2⟩))
        have hapg : (Value.slice a' rs.length c').ownBlock ≠ some gw := fun e => by
          by_cases h : T = 0
          · have := (unhide Hlr gw e).2; rw [hgw2 h] at this; omega
          · exact unhide Hap gw (by rw [(hgw1 h).1]; rfl) e
        go_wp2_with fail
        refine (unhide Hc4).mono ?_
        rintro e w4 ⟨rfl, hfi⟩
        clear Hc4 Hfc Hac
        have hR := mL_rL (unhide HA) (unhide Hp)
        have hR' := hR
        have hLl := fgP_len (mL p fs.length) (mL p fs.length).length
        have hLm : fgL (rL fs rs) = (fgP (mL p fs.length) (mL p fs.length).length).1 := by rw [← hR]; rfl
        have hTm : fgT (rL fs rs) = (fgP (mL p fs.length) (mL p fs.length).length).2 := by rw [← hR]; rfl
        have hmn := mL_len_le p fs.length
        have hg4 := hfi.g
        have hs4 := hg4.size
        have hbw4 : Below w.heap.size w w4 := ⟨hg4.os.trans hbw2.os, hg4.tape.trans hbw2.tape, hg4.output.trans hbw2.output, by have := hbw2.size; omega, fun k hk => (hg4.block k (by omega) (fun e => by injection e with e; omega)).trans (hbw2.block k hk)⟩
        have hr4 := hg4.block (w.heap.size + 1) (by omega) (fun e => by injection e with e; omega)
        replace r0 := (World.cell?_of_block (a := ⟨w.heap.size + 1, 0, none⟩) hr4).trans r0
        replace r1 := (World.cell?_of_block (a := ⟨w.heap.size + 1, 1, none⟩) hr4).trans r1
        replace z0 := (World.frozen?_of_block (a := ⟨w.heap.size + 1, 0, none⟩) hr4).trans z0
        replace z1 := (World.frozen?_of_block (a := ⟨w.heap.size + 1, 1, none⟩) hr4).trans z1
        replace k0 := hg4.cell (a := ⟨w1.heap.size, 0, none⟩) k0 (fun e => hgk (by injection e with e; exact e.symm))
        replace k1 := hg4.cell (a := ⟨w1.heap.size, 1, none⟩) k1 (fun e => hgk (by injection e with e; exact e.symm))
        have hl4 : w.heap.size + 1 < w4.heap.size := by omega
        have hl4' : w1.heap.size < w4.heap.size := by omega
        have HRo4 := hide ((unhide HRo2).kept hg4 (or_ne hapg))
        have hOk : OOk fs (fgL (rL fs rs)) := (whole_fgL (unhide HA)).ok
        have Hmap : Hid (WnM w4 w2.heap.size w2.heap.size s p fs.length (fgL (rL fs rs)).length (fgT (rL fs rs)) (fgL (rL fs rs))) := by
          rw [hTm, hLm, hLl]; exact hfi.map
        have Hown : Hid (∀ j : Nat, j < (fgL (rL fs rs)).length → p j = true → (fgL (rL fs rs))[j]? = some (j : Int)) := by
          rw [hLm, hLl]; exact hfi.fi.own
        have hlL : (fgL (rL fs rs)).length = (mL p fs.length).length := by rw [hLm, hLl]
        have hsl : (setW hs fs (fgL (rL fs rs)) 0).length = (fgL (rL fs rs)).length * s := setW_len (unhide Hu) hOk (Nat.zero_le _)
        have hET : (fgL (rL fs rs)).length * s ≤ T := by rw [unhide HT, hlL]; exact Nat.mul_le_mul_right s hmn
        have Hwds : Hid (Wds w4.heap.size w4 a (setW hs fs (fgL (rL fs rs)) 0)) := by
          by_cases h0 : (fgL (rL fs rs)).length * s = 0
          · have hnil : setW hs fs (fgL (rL fs rs)) 0 = [] := List.eq_nil_of_length_eq_zero (by omega)
            rw [hnil]
            exact ⟨by simp, fun h => absurd rfl h⟩
          · have hT0 : T ≠ 0 := by omega
            have hne : fs ≠ [] := by
              intro e
              have := unhide HT
              rw [e] at this
              simp at this
              exact hT0 this
            obtain ⟨a4, c4, hv4, hW4, _⟩ := words_of_owns (hfi.row hne) (by rw [fgW_len (unhide HA).fit (unhide Hu) hfi.fi]; exact unhide HT) (by omega)
            have e1 : some (⟨gw, 0, none⟩ : Addr) = a4 := by injection hv4
            subst e1
            have h1 := hW4.sub 0 ((mL p fs.length).length * s)
            have h2 := fgAB (unhide HA).fit (unhide Hu) hfi.fi
            have h3 : ((fgW hs fs p (mL p fs.length).length).drop 0).take ((mL p fs.length).length * s) = setW hs fs (fgL (rL fs rs)) 0 := by
              rw [List.drop_zero, setW_zero, hLm]
              unfold fgW
              rw [uj_take (h2.1.trans h2.2.1.symm) h2.2.2 (by rw [h2.2.1]; exact hmn), fgA_take hLl, fgB_take hLl]
            rw [h3] at h1
            rw [(hgw1 hT0).1]
            exact h1
        have hpre : ∀ j : Nat, (j : Int) ∈ rL fs rs → (j : Int) ∈ fgL (rL fs rs) ∧ p j = true := fun j hj => ⟨(mem_fgL_rL (unhide HA) _).2 hj, by rw [← hR] at hj; exact ((mem_mL p fs.length j).1 hj).2⟩
        have Hroot : Hid (∀ j : Nat, To fs rs j → (j : Int) ∈ fgL (rL fs rs) ∧ p j = true) := fun j hj => hpre j ((mem_reachK (unhide HA) j).2 (rch_root hj))
        have Hin : Hid (∀ i j : Nat, ∀ hi : i < fs.length, (i : Int) ∈ fgL (rL fs rs) → To fs fs[i] j → (j : Int) ∈ fgL (rL fs rs) ∧ p j = true) := fun i j hi hm hj => by
          have hpi := (hpre i ((mem_fgL_rL (unhide HA) _).1 hm)).2
          exact hpre j ((mem_reachK (unhide HA) j).2 (rch_step ((unhide Hp i).1 hpi) (List.getElem?_eq_getElem hi) hj))
        have HOk := hide hOk
        have hEq : ((mL p fs.length).length * s : Nat) = (fgL (rL fs rs)).length * s := by rw [hlL]
        rw [hEq]
        clear hR hR' hLl hLm hTm hmn hg4 hr4 hfi hOk hlL hpre Hp HWo2 HRo2 hEq
        have HfuL : Hid (setW hs fs (fgL (rL fs rs)) (fgL (rL fs rs)).length = fuL hs fs rs) := setW_all hs fs _
        have Hset := hide (fun (aw ar : Option Addr) (cw cr N N2 mb pb t gw gr : Nat) (W : World) => settle_c aw ar cw cr 0 0 hs fs rs (fgL (rL fs rs)) s p N N2 mb pb t gw gr W (unhide HA) (unhide Hu) hs1 (unhide HOk))
        have Hclo : Hid (∀ X, Below w4.heap.size w4 X → Calls Try.prog 22 #[.slice a ((fgL (rL fs rs)).length * s) c] X fun e w' => (∃ v, e = .returned v ∧ w'.ownsRow X.heap.size 56 1 v ((fgL (rL fs rs)).length * s) (wordsV (setW hs fs (fgL (rL fs rs)) 0))) ∧ Below X.heap.size X w') := fun X hb => by
          have h := clone_c a c (setW hs fs (fgL (rL fs rs)) 0) X (((unhide Hwds).below hb).mono hb.size) (by omega) hga
          rw [hsl] at h
          exact h
        have hslw : ∀ W, (Instr.slice 22 (.slice a T c) none (some (.int .i64 (((fgL (rL fs rs)).length * s : Nat) : Int))) none).run Try.prog W = .ok (.slice a ((fgL (rL fs rs)).length * s) c) W := fun W => by
          have h1 : (fgL (rL fs rs)).length * s ≤ c := by omega
          generalize (fgL (rL fs rs)).length * s = E at *
          have h2 : (0 : Int) ≤ (E : Int) ∧ (E : Int) ≤ (c : Int) := by omega
          cases a <;> simp [go_sem, Try.underlying22, h1, h2]
        have HET := hide hET
        have Hsl := hide hsl
        clear Hwds hET hsl
        generalize hEe : (fgL (rL fs rs)).length * s = E at *
        have HEe := hide hEe
        clear hEe
        have hE256 : E ≤ 256 := by have := unhide HET; omega
        go_upto_region 10 with fail
        go_cut [12] from 44 to 51 (fun s12 wx => ∃ tb va vc, s12 = .pointer (some ⟨tb, 0, none⟩) ∧ wx.cell? ⟨tb, 0, none⟩ = some (.slice va E vc) ∧ wx.cell? ⟨tb, 1, none⟩ = some (.slice a' rs.length c') ∧ Hid (wx.ownsRow w4.heap.size 56 1 (.slice va E vc) E (wordsV (setW hs fs (fgL (rL fs rs)) 0))) ∧ Hid (∀ k, (Value.slice va E vc).ownBlock = some k → k ≠ tb) ∧ w4.heap.size ≤ tb ∧ Below w4.heap.size w4 wx)
        case first =>
          have hbd : Below w4.heap.size w4 w4.drew := (Below.refl _ _).drew
          have hbda : Below w4.heap.size w4 (w4.alloc (.cells #[.slice none 0 0, .slice none 0 0] 24)).drew := ((Below.refl _ _).alloc (Nat.le_refl _) _).drew
          have Hclx : Hid (∀ X, Below w4.heap.size w4 X → Calls Try.prog 22 #[.slice a E c] X fun e w' => ∃ v, e = .returned v ∧ ((∃ va vc, v = .slice va E vc) ∧ Hid (w'.ownsRow X.heap.size 56 1 v E (wordsV (setW hs fs (fgL (rL fs rs)) 0))) ∧ Below w4.heap.size w4 w' ∧ Below X.heap.size X w')) := fun X hb => by
            refine (unhide Hclo X hb).mono ?_
            rintro e w' ⟨⟨v, rfl, hr⟩, hb2⟩
            obtain ⟨va, vc, hv⟩ := ownsRow_slice hr
            exact ⟨v, rfl, ⟨va, vc, hv⟩, hr, hb.trans (hb2.mono hb.size), hb2⟩
          have Hta : w4.heap.size < (w4.alloc (.cells #[.slice none 0 0, .slice none 0 0] 24)).drew.heap.size := by show w4.heap.size < (w4.alloc _).heap.size; simp
          have Hq0 : (w4.alloc (.cells #[.slice none 0 0, .slice none 0 0] 24)).drew.cell? ⟨w4.heap.size, 0, none⟩ = some (.slice none 0 0) := by show (w4.alloc _).cell? _ = _; simp [go_sem]
          have Hq1 : (w4.alloc (.cells #[.slice none 0 0, .slice none 0 0] 24)).drew.cell? ⟨w4.heap.size, 1, none⟩ = some (.slice none 0 0) := by show (w4.alloc _).cell? _ = _; simp [go_sem]
          have Hy0 : (w4.alloc (.cells #[.slice none 0 0, .slice none 0 0] 24)).drew.frozen? ⟨w4.heap.size, 0, none⟩ = false := by show (w4.alloc _).frozen? _ = _; simp [go_sem]
          have Hy1 : (w4.alloc (.cells #[.slice none 0 0, .slice none 0 0] 24)).drew.frozen? ⟨w4.heap.size, 1, none⟩ = false := by show (w4.alloc _).frozen? _ = _; simp [go_sem]
          go_region_law (first
            | (refine step_call_w (by rfl) 22 #[.slice a E c] (by go_simp) (fun v w' => (∃ va vc, v = .slice va E vc) ∧ Hid (w'.ownsRow w4.drew.heap.size 56 1 v E (wordsV (setW hs fs (fgL (rL fs rs)) 0))) ∧ Below w4.heap.size w4 w' ∧ Below w4.drew.heap.size w4.drew w') (unhide Hclx w4.drew hbd) ?_; rintro vC w9 ⟨⟨va, vc, rfl⟩, hr9, hb9, hx9⟩; have k09 := (hb9.cell (p := ⟨w1.heap.size, 0, none⟩) hl4').trans k0; have k19 := (hb9.cell (p := ⟨w1.heap.size, 1, none⟩) hl4').trans k1; have hl9 : w1.heap.size < w9.heap.size := Nat.lt_of_lt_of_le hl4' hb9.size)
            | (refine step_call_w (by rfl) 22 #[.slice a E c] (by go_simp) (fun v w' => (∃ va vc, v = .slice va E vc) ∧ Hid (w'.ownsRow (w4.alloc (.cells #[.slice none 0 0, .slice none 0 0] 24)).drew.heap.size 56 1 v E (wordsV (setW hs fs (fgL (rL fs rs)) 0))) ∧ Below w4.heap.size w4 w' ∧ Below (w4.alloc (.cells #[.slice none 0 0, .slice none 0 0] 24)).drew.heap.size (w4.alloc (.cells #[.slice none 0 0, .slice none 0 0] 24)).drew w') (unhide Hclx (w4.alloc (.cells #[.slice none 0 0, .slice none 0 0] 24)).drew hbda) ?_; rintro vC w9 ⟨⟨va, vc, rfl⟩, hr9, hb9, hx9⟩; have k09 := (hb9.cell (p := ⟨w1.heap.size, 0, none⟩) hl4').trans k0; have k19 := (hb9.cell (p := ⟨w1.heap.size, 1, none⟩) hl4').trans k1; have hl9 : w1.heap.size < w9.heap.size := Nat.lt_of_lt_of_le hl4' hb9.size; have ht4 : w4.heap.size < (w4.alloc (.cells #[.slice none 0 0, .slice none 0 0] 24)).drew.heap.size := Hta; have q0 := (hx9.cell (p := ⟨w4.heap.size, 0, none⟩) ht4).trans Hq0; have q1 := (hx9.cell (p := ⟨w4.heap.size, 1, none⟩) ht4).trans Hq1; have y0 := (hx9.frozen (p := ⟨w4.heap.size, 0, none⟩) ht4).trans Hy0; have y1 := (hx9.frozen (p := ⟨w4.heap.size, 1, none⟩) ht4).trans Hy1; have l9 : w4.heap.size < w9.heap.size := Nat.lt_of_lt_of_le ht4 hx9.size))
          all_goals
            go_wp2_with fail
            go_meet
            case rel => first
              | exact ⟨w9.heap.size, va, vc, rfl, by simp [go_sem], by simp [go_sem], hide (ownsRow_below (unhide hr9) ((Below.refl _ _).alloc (Nat.le_refl _) _)), hide (fun k h e => by have := ((unhide hr9).lt k h).2; omega), hb9.size, hb9.alloc hb9.size _⟩
              | exact ⟨w4.heap.size, va, vc, rfl, by simp [go_sem, q0, q1], by simp [go_sem, q0, q1], hide (Joins.ownsRow_le (ownsRow_setCell_below (ownsRow_setCell_below (unhide hr9) (a := ⟨w4.heap.size, 0, none⟩) ht4 _) (a := ⟨w4.heap.size, 1, none⟩) ht4 _) (Nat.le_of_lt ht4)), hide (fun k h e => by have := ((unhide hr9).lt k h).1; omega), Nat.le_refl _, (hb9.setCell (p := ⟨w4.heap.size, 0, none⟩) (Nat.le_refl _) _).setCell (p := ⟨w4.heap.size, 1, none⟩) (Nat.le_refl _) _⟩
        case rest =>
        obtain ⟨tb, va, vc, rfl, t0, t1, Hrow, Htb, htb, hbc⟩ := hcut
        have hsc := hbc.size
        have htl : tb < wc.heap.size := World.block_lt_of_cell? wc _ t0
        have hbwc : Below w.heap.size w wc := hbw4.trans (hbc.mono (by omega))
        replace r0 := (hbc.cell (p := ⟨w.heap.size + 1, 0, none⟩) hl4).trans r0
        replace r1 := (hbc.cell (p := ⟨w.heap.size + 1, 1, none⟩) hl4).trans r1
        replace z0 := (hbc.frozen (p := ⟨w.heap.size + 1, 0, none⟩) hl4).trans z0
        replace z1 := (hbc.frozen (p := ⟨w.heap.size + 1, 1, none⟩) hl4).trans z1
        have hlc : w.heap.size + 1 < wc.heap.size := by omega
        have HRoc := hide (ownsRow_below (unhide HRo4) hbc)
        have HMc := hide ((unhide Hmap).below hbc)
        have hm2 : w2.heap.size < wc.heap.size := (unhide HMc).lt
        have Hset2 : Hid (∀ (X : World) (pb : Nat), Below wc.heap.size wc X → X.cell? ⟨pb, 0, none⟩ = some (.map (some w2.heap.size)) → wc.heap.size ≤ pb → Calls Try.prog 23 #[.agg #[.slice va E vc, .slice a' rs.length c'], .int .i64 (s : Nat), .func (.func 42) #[] #[.pointer (some ⟨pb, 0, none⟩)]] X fun e w' => ∃ v, e = .returned v ∧ (w'.cell? ⟨tb, 0, none⟩ = some (.slice va E vc) ∧ w'.cell? ⟨tb, 1, none⟩ = some (.slice a' rs.length c') ∧ (w'.cell? ⟨w.heap.size + 1, 0, none⟩ = some (.slice none 0 0) ∧ w'.cell? ⟨w.heap.size + 1, 1, none⟩ = some (.slice none 0 0) ∧ w'.frozen? ⟨w.heap.size + 1, 0, none⟩ = false ∧ w'.frozen? ⟨w.heap.size + 1, 1, none⟩ = false) ∧ Hid (WdsF W0.heap.size w' va (fuL hs fs rs)) ∧ E ≤ vc ∧ Hid (WdsF W0.heap.size w' a' (fuR fs rs)) ∧ Below w.heap.size w w' ∧ (∀ ty, (Builtin.len_ #[52] ty #[.map (some w2.heap.size)]).run Try.prog w' = .ok (.int .i64 (fgT (rL fs rs) : Nat)) w'))) := by
          intro X pb hb hpb hpl
          have hsX := hb.size
          have hrX := Joins.ownsRow_le (base' := W0.heap.size) (ownsRow_below (unhide Hrow) hb) (by omega)
          have hrr := ownsRow_below (unhide HRoc) hb
          have hpx : pb < X.heap.size := World.block_lt_of_cell? X _ hpb
          obtain ⟨gv, gv1, gv2, gvc, _⟩ := own_pick hrX (X.heap.size + 1)
          obtain ⟨gr, gr1, gr2, _, _⟩ := own_pick hrr (X.heap.size + 2)
          have hv : E ≠ 0 → w4.heap.size ≤ gv ∧ gv < wc.heap.size ∧ gv ≠ tb := fun h => by
            have e : (Value.slice va E vc).ownBlock = some gv := by rw [(gv1 h).1]; rfl
            exact ⟨((unhide Hrow).lt gv e).1, ((unhide Hrow).lt gv e).2, unhide Htb gv e⟩
          have hr : rs.length ≠ 0 → W0.heap.size ≤ gr ∧ gr < w1.heap.size := fun h => unhide Hlr gr (by rw [(gr1 h).1]; rfl)
          have hgvN : W0.heap.size ≤ gv := by
            by_cases h : E = 0
            · rw [gv2 h]; omega
            · exact (gv1 h).2.1
          have hgrN : W0.heap.size ≤ gr := by
            by_cases h : rs.length = 0
            · rw [gr2 h]; omega
            · exact (hr h).1
          have ne1 : pb ≠ gv := by
            by_cases h : E = 0
            · rw [gv2 h]; omega
            · have := hv h; omega
          have ne2 : pb ≠ gr := by
            by_cases h : rs.length = 0
            · rw [gr2 h]; omega
            · have := hr h; omega
          have ne3 : w2.heap.size ≠ gv := by
            by_cases h : E = 0
            · rw [gv2 h]; omega
            · have := hv h
              have := (unhide Hmap).lt
              omega
          have ne4 : w2.heap.size ≠ gr := by
            by_cases h : rs.length = 0
            · rw [gr2 h]; omega
            · have := hr h; omega
          have ne5 : gv ≠ gr := by
            by_cases h : E = 0
            · by_cases h' : rs.length = 0
              · rw [gv2 h, gr2 h']; omega
              · have := hr h'; rw [gv2 h]; omega
            · have := hv h
              by_cases h' : rs.length = 0
              · rw [gr2 h']; omega
              · have := hr h'; omega
          have ne6 : gv ≠ X.heap.size := by
            by_cases h : E = 0
            · rw [gv2 h]; omega
            · have := hv h; omega
          have ne7 : gr ≠ X.heap.size := by
            by_cases h : rs.length = 0
            · rw [gr2 h]; omega
            · have := hr h; omega
          have ne8 : tb ≠ gv := by
            by_cases h : E = 0
            · rw [gv2 h]; omega
            · have := hv h; omega
          have ne9 : tb ≠ gr := by
            by_cases h : rs.length = 0
            · rw [gr2 h]; omega
            · have := hr h; omega
          have hEL : fgL (rL fs rs) ≠ [] → E ≠ 0 := fun h e => by
            have h1 := unhide HEe
            rw [e] at h1
            rcases Nat.mul_eq_zero.1 h1 with h2 | h2
            · exact h (List.eq_nil_of_length_eq_zero h2)
            · omega
          have hc := unhide Hset va a' vc c' w2.heap.size W0.heap.size w2.heap.size pb (fgT (rL fs rs)) gv gr X hpb ((unhide HMc).below hb) (unhide Hroot) (unhide Hin) (unhide Hown) ne1 ne2 ne3 ne4 ne5 ne6 ne7 gvc
            (fun h => by
              have h1 := gv1 (hEL h)
              have h2 := hrX
              rw [h1.1] at h2
              exact ⟨h1.1, h2⟩)
            (fun h => by
              have h1 := gr1 (fun e => h (List.eq_nil_of_length_eq_zero e))
              have h2 := hrr
              rw [h1.1] at h2
              exact ⟨h1.1, h2⟩)
          refine hc.mono ?_
          rintro e w' ⟨rfl, hst⟩
          have hg := hst.g
          have hcell : ∀ b j v, b < wc.heap.size → b ≠ gv → b ≠ gr → wc.cell? ⟨b, j, none⟩ = some v → w'.cell? ⟨b, j, none⟩ = some v := fun b j v h1 h2 h3 h4 => hg.cell h2 h3 ((hb.cell (p := ⟨b, j, none⟩) h1).trans h4)
          have hfroz : ∀ b j, b < wc.heap.size → b ≠ gv → b ≠ gr → wc.frozen? ⟨b, j, none⟩ = false → w'.frozen? ⟨b, j, none⟩ = false := fun b j h1 h2 h3 h4 => (World.frozen?_of_block (a := ⟨b, j, none⟩) (hg.block b (by omega) h2 h3)).trans ((hb.frozen (p := ⟨b, j, none⟩) h1).trans h4)
          have hfl : (fuL hs fs rs).length = E := by
            have := setW_len (hs := hs) (unhide Hu) (unhide HOk) (Nat.le_refl _)
            rw [unhide HfuL] at this
            rw [this]; exact unhide HEe
          have hrl : (sR fs (fgL (rL fs rs)) rs).length = rs.length := by simp [sR]
          refine ⟨_, rfl, hcell tb 0 _ htl ne8 ne9 t0, hcell tb 1 _ htl ne8 ne9 t1, ⟨hcell _ 0 _ hlc (by omega) (by omega) r0, hcell _ 1 _ hlc (by omega) (by omega) r1, hfroz _ 0 hlc (by omega) (by omega) z0, hfroz _ 1 hlc (by omega) (by omega) z1⟩, ?_, gvc, ?_, ?_, ?_⟩
          · by_cases h : E = 0
            · have hnil : fuL hs fs rs = [] := List.eq_nil_of_length_eq_zero (by omega)
              rw [hnil]
              refine ⟨⟨by simp, fun h => absurd rfl h⟩, fun b off e => ?_⟩
              have := (hrX.lt b (by rw [e]; rfl)).1
              exact this
            · have h1 := hst.row (by rw [unhide HfuL]; intro e; rw [e] at hfl; simp at hfl; omega)
              rw [unhide HfuL] at h1
              obtain ⟨a5, c5, h2, h3, _⟩ := wordsF_of_owns h1 (by omega) (by omega)
              injection h2 with h4 _ _
              rw [(gv1 h).1, h4]
              exact h3
          · by_cases h : rs.length = 0
            · have hnil : fuR fs rs = [] := List.eq_nil_of_length_eq_zero (by unfold fuR; omega)
              rw [hnil]
              refine ⟨⟨by simp, fun h => absurd rfl h⟩, fun b off e => ?_⟩
              have := (hrr.lt b (by rw [e]; rfl)).1
              exact this
            · have h1 := hst.roots (by intro e; rw [e] at hrl; simp at hrl; omega)
              have h8 := (unhide HA).n8
              obtain ⟨a5, c5, h2, h3, _⟩ := wordsF_of_owns h1 rfl (by omega)
              injection h2 with h4 _ _
              rw [(gr1 h).1, h4]
              exact h3
          · exact ⟨hg.os.trans (hb.os.trans hbwc.os), hg.tape.trans (hb.tape.trans hbwc.tape), hg.output.trans (hb.output.trans hbwc.output), by have := hg.size; omega, fun k hk => (hg.block k (by omega) (by omega) (by omega)).trans ((hb.block k (by omega)).trans (hbwc.block k hk))⟩
          · obtain ⟨M, hm, _, _, hz⟩ := ((unhide HMc).below hb).gb2 hg ne3 ne4
            intro ty
            rw [← hz]
            exact hm.len Try.underlying52 ty
        have Htur : Hid (Calls Try.prog 24 #[.map (some w2.heap.size)] wc.drew fun e w' => ∃ v, e = .returned v ∧ (v = .func (.func 42) #[] #[.pointer (some ⟨wc.heap.size, 0, none⟩)] ∧ w'.cell? ⟨wc.heap.size, 0, none⟩ = some (.map (some w2.heap.size)) ∧ w'.cell? ⟨tb, 0, none⟩ = some (.slice va E vc) ∧ w'.cell? ⟨tb, 1, none⟩ = some (.slice a' rs.length c') ∧ Below wc.heap.size wc w' ∧ tb < w'.heap.size)) := by
          refine (turner_c w2.heap.size wc.drew).mono ?_
          rintro e w' ⟨rfl, rfl⟩
          have hb : Below wc.heap.size wc (wc.drew.alloc (.cells #[.map (some w2.heap.size)] 52)) := (Below.refl _ _).drew.alloc (Nat.le_refl _) _
          exact ⟨_, rfl, rfl, by show (wc.drew.alloc _).cell? ⟨wc.drew.heap.size, 0, none⟩ = _; simp [go_sem], (hb.cell (p := ⟨tb, 0, none⟩) htl).trans t0, (hb.cell (p := ⟨tb, 1, none⟩) htl).trans t1, hb, Nat.lt_of_lt_of_le htl hb.size⟩
        clear Hrow Htb HRoc HMc Hset Hroot Hin Hown
        go_upto_region 11 with fail
        go_region_law (first
          | (refine step_call_w (by rfl) 24 #[.map (some w2.heap.size)] (by go_simp) (fun v w' => v = .func (.func 42) #[] #[.pointer (some ⟨wc.heap.size, 0, none⟩)] ∧ w'.cell? ⟨wc.heap.size, 0, none⟩ = some (.map (some w2.heap.size)) ∧ w'.cell? ⟨tb, 0, none⟩ = some (.slice va E vc) ∧ w'.cell? ⟨tb, 1, none⟩ = some (.slice a' rs.length c') ∧ Below wc.heap.size wc w' ∧ tb < w'.heap.size) (unhide Htur) ?_; rintro vT wt ⟨rfl, hpt, tt0, tt1, hbt, ttl⟩; have Hbt := hide hbt; have Hpt := hide hpt; clear hbt hpt)
          | (refine step_call_w (by rfl) 23 #[.agg #[.slice va E vc, .slice a' rs.length c'], .int .i64 (s : Nat), .func (.func 42) #[] #[.pointer (some ⟨wc.heap.size, 0, none⟩)]] (by go_simp) (fun v w' => w'.cell? ⟨tb, 0, none⟩ = some (.slice va E vc) ∧ w'.cell? ⟨tb, 1, none⟩ = some (.slice a' rs.length c') ∧ (w'.cell? ⟨w.heap.size + 1, 0, none⟩ = some (.slice none 0 0) ∧ w'.cell? ⟨w.heap.size + 1, 1, none⟩ = some (.slice none 0 0) ∧ w'.frozen? ⟨w.heap.size + 1, 0, none⟩ = false ∧ w'.frozen? ⟨w.heap.size + 1, 1, none⟩ = false) ∧ Hid (WdsF W0.heap.size w' va (fuL hs fs rs)) ∧ E ≤ vc ∧ Hid (WdsF W0.heap.size w' a' (fuR fs rs)) ∧ Below w.heap.size w w' ∧ (∀ ty, (Builtin.len_ #[52] ty #[.map (some w2.heap.size)]).run Try.prog w' = .ok (.int .i64 (fgT (rL fs rs) : Nat)) w')) (unhide Hset2 wt wc.heap.size (unhide Hbt) (unhide Hpt) (Nat.le_refl _)) ?_; rintro vS w9 ⟨s0, s1, ⟨r90, r91, z90, z91⟩, HF1, hvc, HF2, hb9, hlen⟩; have Hb9 := hide hb9; clear hb9))
        all_goals
          have lt9 : tb < w9.heap.size := World.block_lt_of_cell? w9 _ s0
          have lr9 : w.heap.size + 1 < w9.heap.size := World.block_lt_of_cell? w9 _ r90
          have hfl : Hid ((fuL hs fs rs).length = E) := by
            have := setW_len (hs := hs) (unhide Hu) (unhide HOk) (Nat.le_refl _)
            rw [unhide HfuL] at this
            show _ = _
            rw [this]; exact unhide HEe
          have Hvc : Hid (E ≤ vc) := hvc
          have Hfin : Hid (∀ W, W = (w9.setCell ⟨w.heap.size + 1, 0, none⟩ (.slice va E vc)).setCell ⟨w.heap.size + 1, 1, none⟩ (.slice a' rs.length c') → SqRes w.heap.size ws rs (f : Int) (.returned (.tuple #[.agg #[.slice va E vc, .slice a' rs.length c'], .int .i64 (fgT (rL fs rs) : Nat), .int .i64 0])) W ∧ Below w.heap.size w W) := fun W h => by
            subst h
            have h1 := (((unhide HF1).setCell (p := ⟨w.heap.size + 1, 0, none⟩) hs0 (.slice va E vc)).setCell (p := ⟨w.heap.size + 1, 1, none⟩) hs0 (.slice a' rs.length c')).base (base' := w.heap.size) (by omega)
            have h2 := (((unhide HF2).setCell (p := ⟨w.heap.size + 1, 0, none⟩) hs0 (.slice va E vc)).setCell (p := ⟨w.heap.size + 1, 1, none⟩) hs0 (.slice a' rs.length c')).base (base' := w.heap.size) (by omega)
            refine ⟨.inr (.inr ⟨unhide HE, by omega, by omega, hs, fs, unhide HA, unhide Hws, .inr ⟨by rw [Int.toNat_natCast, ← unhide Hsf]; exact unhide Hu, va, vc, a', c', by rw [unhide hfl], h1, by rw [unhide hfl]; exact unhide Hvc, h2⟩⟩), ((unhide Hb9).setCell (p := ⟨w.heap.size + 1, 0, none⟩) (by simp) _).setCell (p := ⟨w.heap.size + 1, 1, none⟩) (by simp) _⟩
          clear HF1 HF2 hvc Hb9 Hset2 Htur Hbt Hpt
          generalize fgT (rL fs rs) = tt at *
          go_wp2
          exact bodyPost_ret (v := .tuple #[.agg #[.slice va E vc, .slice a' rs.length c'], .int .i64 (tt : Nat), .int .i64 0]) (by simp [results, Try.results6, go_sem, r90, r91]) rfl (unhide Hfin _ rfl)

end Go.Proofs.Ytemjhdbmcdlpeaa

/- Walks: Slide. -/
namespace Go.Proofs.Ytemjhdbmcdlpeaa
set_option linter.unusedSimpArgs false
set_option linter.unusedVariables false
open Go.RowKit Go.Shelf

/-- The words of the arena that was moved down. -/
def slL (hs : List Int) (fs : List (List Int)) (rs : List Int) : List Int := joinW (sH hs (rL fs rs)) (sF fs (rL fs rs))
def slR (fs : List (List Int)) (rs : List Int) : List Int := sR fs (rL fs rs) rs

/-- What Slide tells. -/
def SdRes (base : Nat) (ws rs : List Int) (e : Ending) (W : World) : Prop :=
  (arenaE ws rs ≠ 0 ∧ e = .returned (.tuple #[.agg #[.slice none 0 0, .slice none 0 0], .int .i64 (arenaE ws rs)])) ∨
  (arenaE ws rs = 0 ∧ ∃ hs fs a c a' c', Arn hs fs rs ∧ ws = joinW hs fs ∧ e = .returned (.tuple #[.agg #[.slice a (slL hs fs rs).length c, .slice a' rs.length c'], .int .i64 0]) ∧ WdsF base W a (slL hs fs rs) ∧ (slL hs fs rs).length ≤ c ∧ WdsF base W a' (slR fs rs))

theorem slI_keep {w5 W W' : World} {db : Nat} {vo vm vm' : Value} {hs : List Int} {fs : List (List Int)} {L O : List Int} (h : SlI w5 db vo hs fs L O W vm) (hk : KpS W W' db vm vm') : Keep51 W W' := by
  intro b cs hb
  have hl := (Array.getElem?_eq_some_iff.1 hb).1
  obtain ⟨cs', hc⟩ := h.ty
  have h1 : b ≠ db := fun e => by
    subst e
    rw [hb] at hc
    injection hc with hc
    injection hc with _ hc
    exact absurd hc (by decide)
  have h2 : vm.ownBlock ≠ some b := fun e => by
    obtain ⟨ra, rc, hv⟩ := ownsRow_slice h.row
    subst hv
    rcases h.row.2 with ⟨h0, _⟩ | ⟨g, cap, cur, hv, _, hg, _⟩
    · rw [h0] at e; simp [Value.ownBlock] at e
    · rw [hv] at e
      have e' : g = b := by simpa [Value.ownBlock] using e
      subst e'
      rw [hb] at hg
      injection hg with hg
      injection hg with _ hg
      exact absurd hg (by decide)
  rw [(hk.2 b hl h1 h2).1]
  exact hb

theorem laid_nil (hs : List Int) (fs : List (List Int)) (L : List Int) : laid hs fs L [] = [] := by simp [laid, joinW]

end Go.Proofs.Ytemjhdbmcdlpeaa

/- Walks: Slide. -/
namespace Go.Proofs.Ytemjhdbmcdlpeaa
set_option linter.unusedSimpArgs false
set_option linter.unusedVariables false
open Go.RowKit Go.Shelf

theorem slL_len {hs : List Int} {fs : List (List Int)} {rs : List Int} (h : Arn hs fs rs) : (slL hs fs rs).length = tot (sF fs (rL fs rs)) := by
  unfold slL
  rw [joinW_len _ _ (by rw [sH_len, sF_len])]

end Go.Proofs.Ytemjhdbmcdlpeaa

/- Plain: what was moved down, moved down again, or moved. -/
namespace Go.Proofs.Ytemjhdbmcdlpeaa
set_option linter.unusedSimpArgs false
set_option linter.unusedVariables false
open Go.RowKit

/-- All the numbers below n. -/
def allN (n : Nat) : List Int := (List.range n).map fun (i : Nat) => (i : Int)

theorem allN_len (n : Nat) : (allN n).length = n := by simp [allN]
theorem allN_get {n k : Nat} (h : k < n) : (allN n)[k]? = some (k : Int) := by simp [allN, h]
theorem allN_mem {n : Nat} {x : Int} (h : x ∈ allN n) : 0 ≤ x ∧ x < n := by
  unfold allN at h
  obtain ⟨j, hj, rfl⟩ := List.mem_map.1 h
  have := List.mem_range.1 hj
  omega
theorem allN_nodup (n : Nat) : (allN n).Nodup := by
  unfold allN List.Nodup
  rw [List.pairwise_map]
  exact List.nodup_range.imp (fun h e => h (by omega))
theorem allN_place {n k : Nat} (h : k < n) : placeOf (allN n) (k : Int) = (k : Int) := placeOf_nodup (allN_nodup n) (allN_get h)

theorem allN_fields (fs : List (List Int)) : (allN fs.length).map (fO fs) = fs := by
  apply List.ext_getElem?
  intro k
  rw [List.getElem?_map]
  by_cases h : k < fs.length
  · rw [allN_get h, Option.map_some, fO_at h, List.getElem?_eq_getElem h]
  · rw [List.getElem?_eq_none (by rw [allN_len]; omega), List.getElem?_eq_none (by omega)]
    rfl

theorem allN_twW {hs : List Int} {fs : List (List Int)} {x : Int} (h1 : 0 ≤ x) (h2 : x < 18446744073709551616) (hok : okW (stF 0 fs) x = true) : twW fs (allN fs.length) x = x := by
  obtain ⟨e, hr, _⟩ := word_back (stF_nodup fs 0) h1 h2 hok
  unfold twW
  rw [allN_fields]
  have : renV (allN fs.length) (valW (stF 0 fs) x) = valW (stF 0 fs) x := by
    unfold renV
    split
    · rename_i h
      have hb := hr h
      rw [stF_len] at hb
      obtain ⟨j, hj⟩ := Int.eq_ofNat_of_zero_le hb.1
      have e2 : placeOf (allN fs.length) (valW (stF 0 fs) x).2 = (valW (stF 0 fs) x).2 := by rw [hj]; exact allN_place (by omega)
      rw [e2]
      exact Prod.ext h.symm rfl
    · rfl
  rw [this, e]

section
variable {hs : List Int} {fs : List (List Int)} {rs : List Int}

/-- All that was moved down can be come to. -/
theorem rL_all (h : Arn hs fs rs) (hall : ∀ k, k < fs.length → (k : Int) ∈ rL fs rs) : rL fs rs = allN fs.length := by
  unfold rL reachK allN
  rw [readG_len]
  congr 1
  rw [List.filter_eq_self]
  intro k hk
  have hk' := List.mem_range.1 hk
  have hm := hall k hk'
  unfold rL reachK at hm
  obtain ⟨j, hj, e⟩ := List.mem_map.1 hm
  have : j = k := by omega
  subst this
  exact (List.mem_filter.1 hj).2

theorem slid_order (h : Arn hs fs rs) : orderOf (readG (sF fs (rL fs rs)) (slR fs rs)) = (orderOf (readG fs rs)).map (placeOf (rL fs rs)) := by
  have e : readG (sF fs (rL fs rs)) (slR fs rs) = renL (readG fs rs) (rL fs rs) := read_slid h (whole_rL h)
  rw [e]
  exact (order_ren (good_read h) (whole_rL h)).1

theorem slid_all (h : Arn hs fs rs) : rL (sF fs (rL fs rs)) (slR fs rs) = allN (rL fs rs).length := by
  have hA' := arn_slid h (whole_rL h)
  have e := rL_all hA' (fun k hk => by
    rw [sF_len] at hk
    refine (mem_rL hA' _).2 ?_
    show (k : Int) ∈ orderOf (readG (sF fs (rL fs rs)) (slR fs rs))
    rw [slid_order h]
    refine List.mem_map.2 ⟨(rL fs rs)[k], (mem_rL h _).1 (List.getElem_mem hk), ?_⟩
    exact placeOf_nodup (whole_rL h).nd (List.getElem?_eq_getElem hk))
  rw [sF_len] at e
  exact e

/-- What was moved down again stays. -/
theorem slid_again (h : Arn hs fs rs) : slL (sH hs (rL fs rs)) (sF fs (rL fs rs)) (slR fs rs) = slL hs fs rs ∧ slR (sF fs (rL fs rs)) (slR fs rs) = slR fs rs := by
  have hA' : Arn (sH hs (rL fs rs)) (sF fs (rL fs rs)) (slR fs rs) := arn_slid h (whole_rL h)
  have hall := slid_all h
  have hl : (sF fs (rL fs rs)).length = (rL fs rs).length := sF_len _ _
  have hw : ∀ x, 0 ≤ x → x < 18446744073709551616 → okW (stF 0 (sF fs (rL fs rs))) x = true → twW (sF fs (rL fs rs)) (allN (rL fs rs).length) x = x := fun x h1 h2 h3 => by
    rw [← hl]
    exact allN_twW (hs := []) h1 h2 h3
  have eH : sH (sH hs (rL fs rs)) (allN (rL fs rs).length) = sH hs (rL fs rs) := by
    apply List.ext_getElem?
    intro k
    unfold sH
    rw [List.getElem?_map, List.getElem?_map]
    by_cases hk : k < (rL fs rs).length
    · rw [allN_get hk, List.getElem?_eq_getElem hk]
      simp only [Option.map_some]
      congr 1
      unfold rO
      rw [Int.toNat_natCast, List.getD_eq_getElem?_getD, List.getElem?_map, List.getElem?_eq_getElem hk]
      simp only [Option.map_some, Option.getD_some]
      rw [reh_reh]
    · rw [List.getElem?_eq_none (by rw [allN_len]; omega), List.getElem?_eq_none (by omega)]
      rfl
  have eF : sF (sF fs (rL fs rs)) (allN (rL fs rs).length) = sF fs (rL fs rs) := by
    have e1 := allN_fields (sF fs (rL fs rs))
    rw [hl] at e1
    have e2 : sF (sF fs (rL fs rs)) (allN (rL fs rs).length) = ((allN (rL fs rs).length).map (fO (sF fs (rL fs rs)))).map (fun f => f.map (twW (sF fs (rL fs rs)) (allN (rL fs rs).length))) := by
      rw [List.map_map]
      rfl
    rw [e2, e1]
    conv => rhs; rw [← List.map_id (sF fs (rL fs rs))]
    apply List.map_congr_left
    intro f hf
    conv => rhs; rw [id, ← List.map_id f]
    apply List.map_congr_left
    intro x hx
    have hu := hA'.uf f hf x hx
    exact hw x hu.1 hu.2 (hA'.okf f hf x hx)
  have eR : sR (sF fs (rL fs rs)) (allN (rL fs rs).length) (slR fs rs) = slR fs rs := by
    unfold sR
    conv => rhs; rw [← List.map_id (slR fs rs)]
    apply List.map_congr_left
    intro x hx
    have hu := hA'.ur x hx
    exact hw x hu.1 hu.2 (hA'.okr x hx)
  constructor
  · unfold slL
    rw [hall, eH, eF]
  · show sR _ (rL (sF fs (rL fs rs)) (slR fs rs)) (slR fs rs) = _
    rw [hall, eR]

/-- It has the words of what can be come to. -/
theorem slid_size (h : Arn hs fs rs) : (slL hs fs rs).length = tot (mF fs rs) := by
  rw [slL_len h, sF_tot, ← size_eq h]
  rfl

theorem slid_canon (h : Arn hs fs rs) : canonG (readG (sF fs (rL fs rs)) (slR fs rs)) = canonG (readG fs rs) := canon_slid h (whole_rL h)

theorem ageW_reh (b : Bool) (x : Int) : ageW (reh b x) = ageW x := by
  unfold ageW
  have h := reh_ok b x
  rw [h.2.1, h.2.2.2.1]

/-- What was moved down, and then moved, is what was moved at once. -/
theorem slid_moved (h : Arn hs fs rs) : mvL (sH hs (rL fs rs)) (sF fs (rL fs rs)) (slR fs rs) = mvL hs fs rs ∧ mvR (sF fs (rL fs rs)) (slR fs rs) = mvR fs rs := by
  have hA' : Arn (sH hs (rL fs rs)) (sF fs (rL fs rs)) (slR fs rs) := arn_slid h (whole_rL h)
  have hc := slid_canon h
  have e1 : mF (sF fs (rL fs rs)) (slR fs rs) = mF fs rs := by rw [mF_lay hA', mF_lay h, hc]
  have e2 : mvR (sF fs (rL fs rs)) (slR fs rs) = mvR fs rs := by rw [mR_lay hA', mR_lay h, hc]
  refine ⟨?_, e2⟩
  have e3 : mH (sH hs (rL fs rs)) (sF fs (rL fs rs)) (slR fs rs) = mH hs fs rs := by
    unfold mH
    rw [slid_order h, List.map_map]
    apply List.map_congr_left
    intro o ho
    have hm := (mem_rL h o).2 ho
    have hg := placeOf_get hm
    simp only [Function.comp]
    unfold Ytemjhdbmcdlpeaa.hO
    rw [List.getD_eq_getElem?_getD]
    unfold sH
    rw [List.getElem?_map, hg]
    simp only [Option.map_some, Option.getD_some]
    unfold rO
    rw [ageW_reh]
  rw [mvL_eq, mvL_eq, e1, e3]

end

end Go.Proofs.Ytemjhdbmcdlpeaa

/- Plain: what was squeezed, squeezed again; what stays. -/
namespace Go.Proofs.Ytemjhdbmcdlpeaa
set_option linter.unusedSimpArgs false
set_option linter.unusedVariables false
open Go.RowKit

theorem allN_snoc (n : Nat) : allN (n + 1) = allN n ++ [(n : Int)] := by unfold allN; rw [List.range_succ, List.map_append]; rfl

theorem fgP_all (n : Nat) : ∀ i, i ≤ n → fgP (allN n) i = (allN i, 0)
  | 0, _ => by simp [fgP, allN]
  | i + 1, h => by
    have ih := fgP_all n i (by omega)
    have hm : (i : Int) ∈ allN n := List.mem_of_getElem? (allN_get (show i < n by omega))
    rw [fgP_yes hm, ih, allN_snoc]

theorem fgL_all (n : Nat) : fgL (allN n) = allN n ∧ fgT (allN n) = 0 := by
  unfold fgL fgT
  rw [allN_len, fgP_all n n (Nat.le_refl _)]
  exact ⟨rfl, rfl⟩

section
variable {hs : List Int} {fs : List (List Int)} {rs L : List Int}

theorem wh_order (h : Arn hs fs rs) (hL : Whole (readG fs rs) L) : orderOf (readG (sF fs L) (sR fs L rs)) = (orderOf (readG fs rs)).map (placeOf L) := by
  rw [read_slid h hL]
  exact (order_ren (good_read h) hL).1

theorem wh_all (h : Arn hs fs rs) (hL : Whole (readG fs rs) L) (hm : ∀ x, x ∈ L → x ∈ rL fs rs) : rL (sF fs L) (sR fs L rs) = allN L.length := by
  have hA' := arn_slid h hL
  have e := rL_all hA' (fun k hk => by
    rw [sF_len] at hk
    refine (mem_rL hA' _).2 ?_
    rw [wh_order h hL]
    exact List.mem_map.2 ⟨L[k], (mem_rL h _).1 (hm _ (List.getElem_mem hk)), placeOf_nodup hL.nd (List.getElem?_eq_getElem hk)⟩)
  rw [sF_len] at e
  exact e

/-- Laid again as it stands it is the same. -/
theorem wh_again (h : Arn hs fs rs) (hL : Whole (readG fs rs) L) : sH (sH hs L) (allN L.length) = sH hs L ∧ sF (sF fs L) (allN L.length) = sF fs L ∧ sR (sF fs L) (allN L.length) (sR fs L rs) = sR fs L rs := by
  have hA' : Arn (sH hs L) (sF fs L) (sR fs L rs) := arn_slid h hL
  have hl : (sF fs L).length = L.length := sF_len _ _
  have hw : ∀ x, 0 ≤ x → x < 18446744073709551616 → okW (stF 0 (sF fs L)) x = true → twW (sF fs L) (allN L.length) x = x := fun x h1 h2 h3 => by
    rw [← hl]
    exact allN_twW (hs := []) h1 h2 h3
  refine ⟨?_, ?_, ?_⟩
  · apply List.ext_getElem?
    intro k
    unfold sH
    rw [List.getElem?_map, List.getElem?_map]
    by_cases hk : k < L.length
    · rw [allN_get hk, List.getElem?_eq_getElem hk]
      simp only [Option.map_some]
      congr 1
      unfold rO
      rw [Int.toNat_natCast, List.getD_eq_getElem?_getD, List.getElem?_map, List.getElem?_eq_getElem hk]
      simp only [Option.map_some, Option.getD_some]
      rw [reh_reh]
    · rw [List.getElem?_eq_none (by rw [allN_len]; omega), List.getElem?_eq_none (by omega)]
      rfl
  · have e1 := allN_fields (sF fs L)
    rw [hl] at e1
    have e2 : sF (sF fs L) (allN L.length) = ((allN L.length).map (fO (sF fs L))).map (fun f => f.map (twW (sF fs L) (allN L.length))) := by
      rw [List.map_map]
      rfl
    rw [e2, e1]
    conv => rhs; rw [← List.map_id (sF fs L)]
    apply List.map_congr_left
    intro f hf
    conv => rhs; rw [id, ← List.map_id f]
    apply List.map_congr_left
    intro x hx
    have hu := hA'.uf f hf x hx
    exact hw x hu.1 hu.2 (hA'.okf f hf x hx)
  · unfold sR
    conv => rhs; rw [← List.map_id (rs.map (twW fs L))]
    apply List.map_congr_left
    intro x hx
    have hu := hA'.ur x hx
    exact hw x hu.1 hu.2 (hA'.okr x hx)

theorem fu_arn (h : Arn hs fs rs) : Arn (sH hs (fgL (rL fs rs))) (sF fs (fgL (rL fs rs))) (fuR fs rs) := arn_slid h (whole_fgL h)

/-- What was squeezed again stays. -/
theorem fu_again (h : Arn hs fs rs) : fuL (sH hs (fgL (rL fs rs))) (sF fs (fgL (rL fs rs))) (fuR fs rs) = fuL hs fs rs ∧ fuR (sF fs (fgL (rL fs rs))) (fuR fs rs) = fuR fs rs ∧ fgT (rL (sF fs (fgL (rL fs rs))) (fuR fs rs)) = 0 := by
  have hL := whole_fgL h
  have hall : rL (sF fs (fgL (rL fs rs))) (fuR fs rs) = allN (fgL (rL fs rs)).length := wh_all h hL (fun x hx => (mem_fgL_rL h x).1 hx)
  obtain ⟨e1, e2, e3⟩ := wh_again h hL
  refine ⟨?_, ?_, ?_⟩
  · show joinW (sH (sH hs (fgL (rL fs rs))) (fgL (rL (sF fs (fgL (rL fs rs))) (fuR fs rs)))) (sF (sF fs (fgL (rL fs rs))) (fgL (rL (sF fs (fgL (rL fs rs))) (fuR fs rs)))) = _
    rw [hall, (fgL_all _).1, e1, e2]
    rfl
  · show sR (sF fs (fgL (rL fs rs))) (fgL (rL (sF fs (fgL (rL fs rs))) (fuR fs rs))) (fuR fs rs) = _
    rw [hall, (fgL_all _).1]
    exact e3
  · rw [hall]; exact (fgL_all _).2

theorem fu_len (h : Arn hs fs rs) {s : Nat} (hu : Unif s fs) : (fuL hs fs rs).length = (rL fs rs).length * s := by
  have hL := (whole_fgL h).ok
  unfold fuL
  rw [joinW_len _ _ (by rw [sH_len, sF_len]), (sF_unif hu hL).all, sF_len, fgL_len]

/-- It has the words of what can be come to. -/
theorem fu_size (h : Arn hs fs rs) {s : Nat} (hu : Unif s fs) : (fuL hs fs rs).length = tot (mF fs rs) := by
  rw [fu_len h hu, ← slid_size h, slL_len h, (sF_unif hu (whole_rL h).ok).all, sF_len]

theorem fu_canon (h : Arn hs fs rs) : canonG (readG (sF fs (fgL (rL fs rs))) (fuR fs rs)) = canonG (readG fs rs) := canon_slid h (whole_fgL h)

/-- What stands where it may stay stays. -/
theorem fu_stay (h : Arn hs fs rs) {s : Nat} (hu : Unif s fs) {k : Nat} (hk : k < (rL fs rs).length) (hm : (k : Int) ∈ rL fs rs) : ∃ y, (joinW hs fs)[k * s]? = some y ∧ (fuL hs fs rs)[k * s]? = some (reh false y) ∧ 0 ≤ y ∧ y < 18446744073709551616 ∧ unheadOk y = true := by
  obtain ⟨p, hp⟩ := exists_mark h
  have hR := mL_rL h hp
  have hL := (whole_fgL h).ok
  have hrg := (whole_rL h).ok.rng _ hm
  have hkf : k < fs.length := by omega
  obtain ⟨y, hy, e1, e2, e3⟩ := rO_at h.fit hkf
  obtain ⟨y', hy', _, _, h3, h4⟩ := fit_at h.fit hkf
  have : y' = y := by rw [hy] at hy'; injection hy' with hy'; exact hy'.symm
  subst this
  have hLk : (fgL (rL fs rs))[k]? = some (k : Int) := by
    rw [← hR] at hk hm ⊢
    exact fgL_own p _ hk ((mem_mL p _ _).1 hm).2
  have hkL : k < (fgL (rL fs rs)).length := (List.getElem?_eq_some_iff.1 hLk).1
  refine ⟨y', by rw [uj_get h.fit.len hu hkf]; exact hy, ?_, h3, h4, e2⟩
  unfold fuL
  rw [uj_get (by rw [sH_len, sF_len]) (sF_unif hu hL) (by rw [sF_len]; exact hkL)]
  unfold sH
  rw [List.getElem?_map, hLk, Option.map_some, e1]

end

end Go.Proofs.Ytemjhdbmcdlpeaa

/- Walks: the document's headers of what is moved down. -/
namespace Go.Proofs.Ytemjhdbmcdlpeaa
set_option linter.unusedSimpArgs false
set_option linter.unusedVariables false
open Go.RowKit Go.Shelf

/-- Headers of some objects, without marks, of their age. -/
def sdHd (hs : List Int) (L : List Int) : List Hd := L.map fun o => (uhL (hs.getD o.toNat 0), false, uhA (hs.getD o.toNat 0))
theorem sdHd_len (hs L : List Int) : (sdHd hs L).length = L.length := by simp [sdHd]
theorem sdHd_hW (hs L : List Int) : (sdHd hs L).map hW = L.map (rO hs) := by
  unfold sdHd
  rw [List.map_map]
  rfl

set_option maxRecDepth 100000 in
set_option maxHeartbeats 2000000 in
theorem headsOf0_c (aw ar al : Option Addr) (cw nr cr cl : Nat) (ws : List Int) (hs : List Int) (fs : List (List Int)) (L : List Int) (B : Nat) (w : World) (hW : Wds B w aw ws) (hUW : U64 ws) (hB : B ≤ w.heap.size) (hF : Fit hs fs) (hws : ws = joinW hs fs) (h256 : ws.length ≤ 256)
    (hl : Ints B w al L) (hin : ∀ o ∈ L, 0 ≤ o ∧ o < fs.length) (hL : L.length ≤ 256) :
    Calls Try.prog 32 #[.agg #[.slice aw ws.length cw, .slice ar nr cr], .slice al L.length cl, .int .i64 0] w fun e w' => (∃ a c, e = .returned (.slice a L.length c) ∧ Hdrs w'.heap.size w' a (sdHd hs L)) ∧ Below w.heap.size w w' := by
  obtain ⟨i0, hi0, hz0, hz1, hz2⟩ := info_parts Try.info32
  obtain ⟨W1, hW1⟩ : ∃ W1, w.alloc (.cells #[.slice aw ws.length cw, .slice ar nr cr] 24) = W1 := ⟨_, rfl⟩
  have hb1 : Below w.heap.size w W1 := by rw [← hW1]; exact (Below.refl w.heap.size w).alloc (Nat.le_refl _) _
  have hs1 : w.heap.size < W1.heap.size := by rw [← hW1]; simp
  have g0 : W1.cell? ⟨w.heap.size, 0, none⟩ = some (.slice aw ws.length cw) := by rw [← hW1]; simp [go_sem]
  have g1 : W1.cell? ⟨w.heap.size, 1, none⟩ = some (.slice ar nr cr) := by rw [← hW1]; simp [go_sem]
  have Hc1 := hide (heads_c aw ar cw nr cr ws hs fs B W1 (hW.below (hb1.mono hB)) hUW (by omega) hF hws h256)
  have hfl := hF.len
  have Hlen : Hid (hs.length = fs.length) := hfl
  have htl : hs.length ≤ 256 := by have := tot_len fs; rw [hws, joinW_len _ _ hF.len] at h256; omega
  have HL := hide (hl.below (hb1.mono hB))
  have Hin : Hid (∀ o ∈ L, 0 ≤ o ∧ o < hs.length) := fun o ho => by have := hin o ho; omega
  clear hF hws hUW hW hl hfl hin
  go_enter Try.func32, Try.ntmps32
  go_wp2_with fail
  refine (unhide Hc1).mono ?_
  rintro e w2 ⟨⟨v, rfl, hown⟩, hb2⟩
  obtain ⟨ha, hc, rfl, hH⟩ := hdrs_of_owns hown (by simp [headsH]) (by omega)
  rw [headsH_len]
  have hs2 := hb2.size
  have hbw2 : Below w.heap.size w w2 := hb1.trans (hb2.mono (by omega))
  have HH := hide hH
  have HL2 := hide ((unhide HL).below (hb2.mono (by omega)))
  have hB2 : B ≤ w2.heap.size := by omega
  clear hW1 Hc1 hown hH hb1 hb2 HL g0 g1 hs1
  go_wp2
  go_loopw [8, 16] (fun s i wr => ∃ k : Nat, k ≤ L.length ∧ i = .int .i64 k ∧ wr.ownsRow w2.heap.size 32 3 s k (cellsH (sdHd hs (L.take k))) ∧ Below w2.heap.size w2 wr) (fun _ i _ => L.length - (intOf i).toNat)
  case atStart => exact ⟨0, Nat.zero_le _, rfl, by simpa [cellsH, sdHd] using World.ownsRow_nil _ _ _ _, Below.refl _ _⟩
  case round =>
    obtain ⟨k, hk, rfl, hown, hb⟩ := hrel
    have hsz := hb.size
    by_cases hlt : k < L.length
    · obtain ⟨b1, o1, rfl, hB1, hc1⟩ := ((unhide HL2).below (hb.mono hB2)).at hlt
      have hro := unhide Hin _ (List.getElem_mem hlt)
      have HT : Hid (sdHd hs (L.take (k + 1)) = sdHd hs (L.take k) ++ [(uhL (hs.getD (L[k]).toNat 0), false, uhA (hs.getD (L[k]).toNat 0))]) := by
        show _ = _
        rw [List.take_succ_eq_append_getElem hlt]
        simp only [sdHd, List.map_append, List.map_cons, List.map_nil]
      have hcl : (L[k]).toNat < (headsH hs).length := by rw [headsH_len]; omega
      obtain ⟨b2, o2, n, m, a, rfl, hB2', hd1, hd2, hd3, He⟩ := ((unhide HH).below hb).at hcl
      have He' : Hid (hs.getD (L[k]).toNat 0 = hs.getD (L[k]).toNat 0 ∧ n = uhL (hs.getD (L[k]).toNat 0) ∧ a = uhA (hs.getD (L[k]).toNat 0)) := by
        have hh := He.out
        simp only [headsH, List.getElem_map, Prod.mk.injEq] at hh
        have e1 : hs.getD (L[k]).toNat 0 = hs[(L[k]).toNat]'(by omega) := by rw [List.getD_eq_getElem?_getD, List.getElem?_eq_getElem (by omega), Option.getD_some]
        exact ⟨rfl, by rw [e1]; exact hh.1.symm, by rw [e1]; exact hh.2.2.symm⟩
      have hab : 0 ≤ a ∧ a ≤ 7 := by
        rw [(unhide He').2.2]
        unfold uhA; split
        · omega
        · omega
      generalize L[k] = o at *
      obtain ⟨o, rfl⟩ := Int.eq_ofNat_of_zero_le hro.1
      simp only [Int.toNat_natCast] at *
      have hoI : (o : Int) < (hs.length : Int) := hro.2
      have hq1 : b1 < wr.heap.size := by omega
      have hq2 : b2 < wr.heap.size := by omega
      have hw1 : IntKind.i64.wrap a = a := by rw [IntKind.wrap_i64]; omega
      have HT2 : Hid (sdHd hs (L.take (k + 1)) = sdHd hs (L.take k) ++ [(n, false, a)]) := by
        show _ = _
        rw [unhide HT, (unhide He').2.1, (unhide He').2.2]
      clear HT He He' hro hcl
      have hmx : k + 1 ≤ maxLen := by simp only [maxLen]; omega
      have hmy : (k + 1) * 24 ≤ 140737488355328 := by omega
      have d7 : decide (7 < a) = false := by simp; omega
      have d7' : decide (a > 7) = false := by simp; omega
      go_wp2_with (at_builtin; go_must (refine wpList_append_own _ rfl _ _ 29 rfl w2.heap.size 32 i0 _ 3 24 Try.underlying29 hi0 hz0 hz1 hz2 rfl (by decide) _ _ _ rfl ((hown.alloc _).alloc _) ⟨wr.heap.size + 1, 0, none⟩ 1 1 [.int .i64 n, .bool false, .int .i64 a] rfl rfl (cell_three_at _ _ _ _ _ _ (by simp)) (by simp [Value.oneCell']) hmx hmy (by simp; omega) ?_); intro v' w1 hown' hgrow _)
      go_roundw
      case rel =>
        refine ⟨k + 1, by omega, by go_num, ?_, ((hb.alloc hsz _).alloc (by simp; omega) _).grown hgrow (by simp; omega) (fun q e => (hown.lt q e).1)⟩
        rw [unhide HT2, cellsH_snoc]
        exact hown'
      case measure => simp [intOf]; omega
    · obtain rfl : k = L.length := by omega
      rw [List.take_length] at hown
      obtain ⟨ra, rc, hv, hR⟩ := hdrs_of_owns hown (by rw [sdHd_len]) (by omega)
      rw [sdHd_len] at hv
      subst hv
      have HR := hide hR
      clear hown hR
      go_wp2
      go_ret
      exact ⟨⟨_, _, rfl, unhide HR⟩, hbw2.trans (hb.mono (by have := hbw2.size; omega))⟩

end Go.Proofs.Ytemjhdbmcdlpeaa

/- Walks: the document's Mark. -/
namespace Go.Proofs.Ytemjhdbmcdlpeaa
set_option linter.unusedSimpArgs false
set_option linter.unusedVariables false
open Go.RowKit Go.Shelf

/-- A block that holds no number. -/
def NoNum (W : World) (rb : Nat) : Prop := ∃ cs t, W.heap[rb]? = some (.cells cs t) ∧ ∀ (i : Nat) (k : IntKind) (x : Int), cs[i]? ≠ some (Value.int k x)

theorem NoNum.wds {W : World} {rb B j : Nat} {a : Option Addr} {l : List Int} (h : NoNum W rb) (hw : Wds B W a l) (u : Value) : Wds B (W.setCell ⟨rb, j, none⟩ u) a l := by
  refine ⟨hw.1, fun hne => ?_⟩
  obtain ⟨b, off, rfl, hB, hc⟩ := hw.2 hne
  obtain ⟨cs, t, hb, hn⟩ := h
  have hbr : b ≠ rb := by
    rintro rfl
    have h0 : 0 < l.length := List.length_pos_iff.2 hne
    have := hc 0 l[0] (List.getElem?_eq_getElem h0)
    rw [cell_of_row W b (off + 0) cs t (0, 0) hb] at this
    exact hn _ _ _ this
  refine ⟨b, off, rfl, hB, fun k v hk => ?_⟩
  rw [World.cell?_of_block (a := ⟨b, off + k, none⟩) (Below.heap_setCell _ _ _ _ hbr)]
  exact hc k v hk

theorem NoNum.set {W : World} {rb j : Nat} (h : NoNum W rb) {u : Value} (hu : ∀ (k : IntKind) (x : Int), u ≠ Value.int k x) : NoNum (W.setCell ⟨rb, j, none⟩ u) rb := by
  obtain ⟨cs, t, hb, hn⟩ := h
  refine ⟨_, t, heap_setCell_same W rb j cs t u hb, fun i k x => ?_⟩
  rw [Array.getElem?_setIfInBounds]
  split
  · split
    · intro e; injection e with e; exact hu k x e
    · simp
  · exact hn i k x

theorem ints_keep {B : Nat} {W W' : World} {a : Option Addr} {l : List Int} (h : Ints B W a l) (hb : ∀ b off, a = some ⟨b, off, none⟩ → b < B → W'.heap[b]? = W.heap[b]?) : Ints B W' a l := by
  refine ⟨h.1, fun hne => ?_⟩
  obtain ⟨b, off, rfl, hB, hc⟩ := h.2 hne
  refine ⟨b, off, rfl, hB, fun k v hk => ?_⟩
  rw [World.cell?_of_block (a := ⟨b, off + k, none⟩) (hb b off rfl hB)]
  exact hc k v hk

/-- What the document's Mark tells. -/
def RMk (L rs : List Int) (e : Ending) (W : World) : Prop :=
  ∃ aw cw ar cr, e = .returned (.agg #[.slice aw L.length cw, .slice ar rs.length cr]) ∧ Wds W.heap.size W aw L ∧ Wds W.heap.size W ar rs

end Go.Proofs.Ytemjhdbmcdlpeaa

/- Walks: the document's Slide. -/
namespace Go.Proofs.Ytemjhdbmcdlpeaa
set_option linter.unusedSimpArgs false
set_option linter.unusedVariables false
open Go.RowKit Go.Shelf

/-- What Renumber, headsOf, Lay hand back. -/
def RnS (X : World) (g : Gr) (L : List Int) (v : Value) (W : World) : Prop :=
  ∃ ao co ar cr, v = .agg #[.slice ao (renL g L).objs.length co, .slice ar (renL g L).roots.length cr] ∧ Objs W.heap.size W ao (renL g L).objs ∧ Vals W.heap.size W ar (renL g L).roots ∧ Below X.heap.size X W
def HdS (X : World) (hs L : List Int) (v : Value) (W : World) : Prop :=
  ∃ a c, v = .slice a L.length c ∧ Hdrs W.heap.size W a (sdHd hs L) ∧ Below X.heap.size X W
def LyS (X : World) (L R : List Int) (v : Value) (W : World) : Prop :=
  ∃ aw cw ar cr, v = .agg #[.slice aw L.length cw, .slice ar R.length cr] ∧ Wds W.heap.size W aw L ∧ Wds W.heap.size W ar R ∧ Below X.heap.size X W

theorem lay_slid {hs : List Int} {fs : List (List Int)} {rs : List Int} (hA : Arn hs fs rs) (ao ar ah : Option Addr) (co cr ch : Nat) (X : World)
    (hO : Objs X.heap.size X ao (renL (readG fs rs) (rL fs rs)).objs) (hV : Vals X.heap.size X ar (renL (readG fs rs) (rL fs rs)).roots) (hH : Hdrs X.heap.size X ah (sdHd hs (rL fs rs))) :
    Calls Try.prog 30 #[.agg #[.slice ao (renL (readG fs rs) (rL fs rs)).objs.length co, .slice ar (renL (readG fs rs) (rL fs rs)).roots.length cr], .slice ah (rL fs rs).length ch] X fun e w' => ∃ v, e = .returned v ∧ LyS X (slL hs fs rs) (slR fs rs) v w' := by
  have hG := good_ren (good_read hA) (whole_rL hA)
  obtain ⟨hnr, hno⟩ := num_renL hA (whole_rL hA)
  have h := rlay_c ao ar ah co cr ch (renL (readG fs rs) (rL fs rs)) (sdHd hs (rL fs rs)) X.heap.size X hO hV hH (by rw [sdHd_len, renL_len]) (Nat.le_refl _) hG.n24 hG.n4 hG.n8 hG.rr hG.ro hnr hno
  rw [sdHd_len] at h
  refine h.mono ?_
  rintro e w' ⟨⟨aw', cw', ar', cr', he, h1, h2⟩, h3⟩
  have e1 : layHW (stF 0 (renL (readG fs rs) (rL fs rs)).objs) (sdHd hs (rL fs rs)) (renL (readG fs rs) (rL fs rs)).objs = slL hs fs rs := by
    unfold layHW
    rw [sdHd_hW, ← sF_lay (whole_rL hA)]
    rfl
  have e2 : slR fs rs = _ := sR_lay (whole_rL hA)
  rw [e1] at he h1
  rw [← e2] at he h2
  exact ⟨_, he, aw', cw', ar', cr', rfl, h1, h2, h3⟩

end Go.Proofs.Ytemjhdbmcdlpeaa

/- Walks: the document's Squeeze. -/
namespace Go.Proofs.Ytemjhdbmcdlpeaa
set_option linter.unusedSimpArgs false
set_option linter.unusedVariables false
open Go.RowKit Go.Shelf

/-- What the document's Squeeze tells. -/
def RSq (L R : List Int) (t : Nat) (e : Ending) (W : World) : Prop :=
  ∃ aw cw ar cr, e = .returned (.tuple #[.agg #[.slice aw L.length cw, .slice ar R.length cr], .int .i64 (t : Nat)]) ∧ Wds W.heap.size W aw L ∧ Wds W.heap.size W ar R

theorem lay_fing {hs : List Int} {fs : List (List Int)} {rs : List Int} (hA : Arn hs fs rs) (ao ar ah : Option Addr) (co cr ch : Nat) (X : World)
    (hO : Objs X.heap.size X ao (renL (readG fs rs) (fgL (rL fs rs))).objs) (hV : Vals X.heap.size X ar (renL (readG fs rs) (fgL (rL fs rs))).roots) (hH : Hdrs X.heap.size X ah (sdHd hs (fgL (rL fs rs)))) :
    Calls Try.prog 30 #[.agg #[.slice ao (renL (readG fs rs) (fgL (rL fs rs))).objs.length co, .slice ar (renL (readG fs rs) (fgL (rL fs rs))).roots.length cr], .slice ah (fgL (rL fs rs)).length ch] X fun e w' => ∃ v, e = .returned v ∧ LyS X (fuL hs fs rs) (fuR fs rs) v w' := by
  have hG := good_ren (good_read hA) (whole_fgL hA)
  obtain ⟨hnr, hno⟩ := num_renL hA (whole_fgL hA)
  have h := rlay_c ao ar ah co cr ch (renL (readG fs rs) (fgL (rL fs rs))) (sdHd hs (fgL (rL fs rs))) X.heap.size X hO hV hH (by rw [sdHd_len, renL_len]) (Nat.le_refl _) hG.n24 hG.n4 hG.n8 hG.rr hG.ro hnr hno
  rw [sdHd_len] at h
  refine h.mono ?_
  rintro e w' ⟨⟨aw', cw', ar', cr', he, h1, h2⟩, h3⟩
  have e1 : layHW (stF 0 (renL (readG fs rs) (fgL (rL fs rs))).objs) (sdHd hs (fgL (rL fs rs))) (renL (readG fs rs) (fgL (rL fs rs))).objs = fuL hs fs rs := by
    unfold layHW
    rw [sdHd_hW, ← sF_lay (whole_fgL hA)]
    rfl
  have e2 : fuR fs rs = _ := sR_lay (whole_fgL hA)
  rw [e1] at he h1
  rw [← e2] at he h2
  exact ⟨_, he, aw', cw', ar', cr', rfl, h1, h2, h3⟩

set_option maxRecDepth 100000 in
set_option maxHeartbeats 8000000 in
theorem rsqueeze_c (aw ar : Option Addr) (cw cr : Nat) (ws rs : List Int) (hs : List Int) (fs : List (List Int)) (B : Nat) (w : World) (hW : Wds B w aw ws) (hR : Wds B w ar rs) (hUW : U64 ws) (hUR : U64 rs) (hB : B ≤ w.heap.size) (hA : Arn hs fs rs) (hws : ws = joinW hs fs) :
    Calls Try.prog 10 #[.agg #[.slice aw ws.length cw, .slice ar rs.length cr]] w fun e w' => RSq (fuL hs fs rs) (fuR fs rs) (fgT (rL fs rs)) e w' ∧ Below w.heap.size w w' := by
  have hsp : splitR ws = some fs := by rw [hws]; exact fit_split hA.fit
  have h256 : ws.length ≤ 256 := by rw [hws, joinW_len _ _ hA.fit.len]; exact hA.n256
  obtain ⟨W1, hW1⟩ : ∃ W1, (w.alloc (.cells #[.slice aw ws.length cw, .slice ar rs.length cr] 24)).alloc (.cells #[.slice none 0 0, .slice none 0 0] 24) = W1 := ⟨_, rfl⟩
  have hb1 : Below w.heap.size w W1 := by rw [← hW1]; exact ((Below.refl w.heap.size w).alloc (Nat.le_refl _) _).alloc (by simp) _
  have hs1 : w.heap.size + 1 < W1.heap.size := by rw [← hW1]; simp
  have g0 : W1.cell? ⟨w.heap.size, 0, none⟩ = some (.slice aw ws.length cw) := by rw [← hW1]; simp [go_sem]
  have g1 : W1.cell? ⟨w.heap.size, 1, none⟩ = some (.slice ar rs.length cr) := by rw [← hW1]; simp [go_sem]
  have hr0 : W1.heap[w.heap.size + 1]? = some (.cells #[.slice none 0 0, .slice none 0 0] 24) := by
    have := heap_alloc_new (w.alloc (.cells #[.slice aw ws.length cw, .slice ar rs.length cr] 24)) (.cells #[.slice none 0 0, .slice none 0 0] 24)
    rw [hW1] at this
    simpa using this
  have Hc1 := hide (rread_c aw ar cw cr ws rs fs B W1 (hW.below (hb1.mono hB)) (hR.below (hb1.mono hB)) hUW hUR (by omega) h256 hA.n8 hsp)
  have HA := hide hA
  have HG := hide (good_read hA)
  have HWh := hide (whole_fgL hA)
  have Hws := hide hws
  have Hr0 := hide hr0
  have hOl : (rL fs rs).length ≤ 256 := by have := (whole_rL hA).ok.len; have := hA.n256; omega
  have HR := hide (fun o ho => (whole_fgL hA).ok.rng o ho)
  clear hA hws hsp hr0
  go_enter Try.func10, Try.ntmps10
  go_wp2_with fail
  refine (unhide Hc1).mono ?_
  rintro e w2 ⟨⟨ao, co, ar2, cr2, he, hO, hV⟩, hb2⟩
  subst he
  have hs2 := hb2.size
  have hbw2 : Below w.heap.size w w2 := hb1.trans (hb2.mono (by omega))
  obtain ⟨W2, hW2⟩ : ∃ W2, w2.alloc (.cells #[.slice ao (readG fs rs).objs.length co, .slice ar2 (readG fs rs).roots.length cr2] 43) = W2 := ⟨_, rfl⟩
  have hb2' : Below w2.heap.size w2 W2 := by rw [← hW2]; exact (Below.refl _ _).alloc (Nat.le_refl _) _
  have hs2' : w2.heap.size < W2.heap.size := by rw [← hW2]; simp
  have k0 : W2.cell? ⟨w2.heap.size, 0, none⟩ = some (.slice ao (readG fs rs).objs.length co) := by rw [← hW2]; simp [go_sem]
  have k1 : W2.cell? ⟨w2.heap.size, 1, none⟩ = some (.slice ar2 (readG fs rs).roots.length cr2) := by rw [← hW2]; simp [go_sem]
  replace g0 := (hb2'.cell (p := ⟨w.heap.size, 0, none⟩) (by simp; omega)).trans ((hb2.cell (p := ⟨w.heap.size, 0, none⟩) (by simp; omega)).trans g0)
  replace g1 := (hb2'.cell (p := ⟨w.heap.size, 1, none⟩) (by simp; omega)).trans ((hb2.cell (p := ⟨w.heap.size, 1, none⟩) (by simp; omega)).trans g1)
  have hbW2 : Below w.heap.size w W2 := hbw2.trans (hb2'.mono (by omega))
  have hwW2 : w.heap.size < W2.heap.size := by omega
  replace Hr0 := hide ((hb2'.block (w.heap.size + 1) (by omega)).trans ((hb2.block (w.heap.size + 1) (by omega)).trans (unhide Hr0)))
  have HO := hide ((hO.below hb2').mono (B' := W2.heap.size) (by omega))
  have HV := hide ((hV.below hb2').mono (B' := W2.heap.size) (by omega))
  have Hc2 := hide (show Calls Try.prog 14 #[.agg #[.slice ao (readG fs rs).objs.length co, .slice ar2 (readG fs rs).roots.length cr2]] W2 fun e w' => ∃ a cap, e = .returned (.slice a (rL fs rs).length cap) ∧ Ints w'.heap.size w' a (rL fs rs) ∧ Below W2.heap.size W2 w' from refReach_c ao ar2 co cr2 (readG fs rs) W2.heap.size W2 (unhide HO) (unhide HV) (Nat.le_refl _) (unhide HG))
  clear Hc1 hO hV hW1 hb1 hb2 hb2' hbw2
  go_wp2_with fail
  refine (unhide Hc2).mono ?_
  rintro e w3 ⟨la, lc, he, hI, hb3⟩
  subst he
  have hs3 := hb3.size
  replace k0 := (hb3.cell (p := ⟨w2.heap.size, 0, none⟩) hs2').trans k0
  replace k1 := (hb3.cell (p := ⟨w2.heap.size, 1, none⟩) hs2').trans k1
  replace g0 := (hb3.cell (p := ⟨w.heap.size, 0, none⟩) hwW2).trans g0
  replace g1 := (hb3.cell (p := ⟨w.heap.size, 1, none⟩) hwW2).trans g1
  replace Hr0 := hide ((hb3.block (w.heap.size + 1) (by omega)).trans (unhide Hr0))
  have hbw3 : Below w.heap.size w w3 := hbW2.trans (hb3.mono (by omega))
  have hl3 : w2.heap.size < w3.heap.size := by omega
  have hl3' : w.heap.size < w3.heap.size := by omega
  have hl3'' : w.heap.size + 1 < w3.heap.size := by omega
  have Hin := hide hI
  obtain ⟨i3, hi3, hz3, hz4, hz5⟩ := info_parts Try.info3
  clear hI
  generalize hRe : rL fs rs = R at *
  have HRe := hide hRe
  clear hRe
  go_wp2
  go_loopw [7, 8, 9] (fun v t i wr => ∃ k : Nat, k ≤ R.length ∧ i = .int .i64 k ∧ t = .int .i64 ((fgP R k).2 : Nat) ∧ wr.ownsRow w3.heap.size 3 1 v (fgP R k).1.length (intsV (fgP R k).1) ∧ Below w3.heap.size w3 wr) (fun _ _ i _ => R.length - (intOf i).toNat)
  case atStart => exact ⟨0, Nat.zero_le _, rfl, by simp [fgP], by simp [fgP, intsV]; exact World.ownsRow_nil _ _ _ _, Below.refl _ _⟩
  case round =>
  obtain ⟨k, hk, rfl, rfl, hown, hb⟩ := hrel
  have hsz := hb.size
  have hkl := fgP_len R k
  have hkt := fgP_le R k
  by_cases hlt : k < R.length
  · have hI2 := (unhide Hin).below hb
    have Hc3 := hide (has_c la lc R (k : Int) w3.heap.size wr hI2)
    have hkI : (k : Int) < (R.length : Int) := by omega
    have hmx : (fgP R k).1.length + 1 ≤ maxLen := by simp only [maxLen]; omega
    have hmy : ((fgP R k).1.length + 1) * 8 ≤ 140737488355328 := by omega
    by_cases hm : (k : Int) ∈ R
    · have dm : decide ((k : Int) ∈ R) = true := by simpa using hm
      rw [dm] at Hc3
      have HT := hide (fgP_yes hm)
      clear hI2 hkl
      go_wp2_with fail
      refine (unhide Hc3).mono ?_
      rintro e w4 ⟨rfl, hw4⟩
      obtain rfl := hw4.symm
      clear Hc3
      go_wp2_with (at_builtin; go_must (refine wpList_append_own _ rfl _ _ 38 rfl w3.heap.size 3 i3 _ 1 8 Try.underlying38 hi3 hz3 hz4 hz5 rfl (by decide) _ _ _ rfl (hown.alloc _) ⟨wr.heap.size, 0, none⟩ 1 1 [.int .i64 k] rfl rfl (cell_one_at _ _ _ _ (by simp)) (by simp [Value.oneCell']) hmx hmy (by simp; omega) ?_); intro v' w1' hown' hgrow _)
      go_roundw
      case rel => exact ⟨k + 1, by omega, by go_num, by rw [unhide HT], by rw [unhide HT, intsV_snoc, List.length_append]; exact hown', (hb.alloc hsz _).grown hgrow (by simp; omega) (fun q e => (hown.lt q e).1)⟩
      case measure => simp [intOf]; omega
    · have dm : decide ((k : Int) ∈ R) = false := by simpa using hm
      rw [dm] at Hc3
      have HT := hide (fgP_no hm)
      have hix : R.length - ((fgP R k).2 + 1) < R.length := by omega
      obtain ⟨b, off, rfl, hbB, hcl⟩ := hI2.at hix
      have hgd : R.getD (R.length - ((fgP R k).2 + 1)) 0 = R[R.length - ((fgP R k).2 + 1)] := by rw [List.getD_eq_getElem?_getD, List.getElem?_eq_getElem hix]; rfl
      rw [hgd] at HT
      have hwr1 : IntKind.i64.wrap (((fgP R k).2 : Int) + 1) = ((fgP R k).2 : Int) + 1 := by rw [IntKind.wrap_i64]; omega
      have hwr2 : IntKind.i64.wrap ((R.length : Int) - (((fgP R k).2 : Int) + 1)) = ((R.length - ((fgP R k).2 + 1) : Nat) : Int) := by rw [IntKind.wrap_i64]; omega
      have Htn : Hid (((fgP R (k + 1)).2 : Int) = ((fgP R k).2 : Int) + 1) := by show _ = _; rw [fgP_no hm]; simp
      generalize R[R.length - ((fgP R k).2 + 1)] = x at *
      generalize hje : R.length - ((fgP R k).2 + 1) = j at *
      have hjI : (j : Int) < (R.length : Int) := by omega
      have hbl : b < wr.heap.size := by omega
      clear hI2 hkl hgd hje
      go_wp2_with fail
      refine (unhide Hc3).mono ?_
      rintro e w4 ⟨rfl, hw4⟩
      obtain rfl := hw4.symm
      clear Hc3
      go_wp2_with (at_builtin; go_must (refine wpList_append_own _ rfl _ _ 38 rfl w3.heap.size 3 i3 _ 1 8 Try.underlying38 hi3 hz3 hz4 hz5 rfl (by decide) _ _ _ rfl (hown.alloc _) ⟨wr.heap.size, 0, none⟩ 1 1 [.int .i64 x] rfl rfl (cell_one_at _ _ _ _ (by simp)) (by simp [Value.oneCell']) hmx hmy (by simp; omega) ?_); intro v' w1' hown' hgrow _)
      go_roundw
      case rel => exact ⟨k + 1, by omega, by go_num, by rw [unhide Htn], by rw [unhide HT, intsV_snoc, List.length_append]; exact hown', (hb.alloc hsz _).grown hgrow (by simp; omega) (fun q e => (hown.lt q e).1)⟩
      case measure => simp [intOf]; omega
  · obtain rfl : k = R.length := by omega
    have hown2 : wr.ownsRow w3.heap.size 3 1 u7 (fgL R).length (intsV (fgL R)) := hown
    obtain ⟨a', cap', hv, hV', _⟩ := ints_of_owns hown2 rfl (by rw [fgL_len]; omega)
    subst hv
    replace k0 := (hb.cell (p := ⟨w2.heap.size, 0, none⟩) hl3).trans k0
    replace k1 := (hb.cell (p := ⟨w2.heap.size, 1, none⟩) hl3).trans k1
    replace g0 := (hb.cell (p := ⟨w.heap.size, 0, none⟩) hl3').trans g0
    replace g1 := (hb.cell (p := ⟨w.heap.size, 1, none⟩) hl3').trans g1
    replace Hr0 := hide ((hb.block (w.heap.size + 1) hl3'').trans (unhide Hr0))
    have hbwr : Below w.heap.size w wr := hbw3.trans (hb.mono (by omega))
    have hlr : w2.heap.size < wr.heap.size := by omega
    have hlr' : w.heap.size < wr.heap.size := by omega
    have hlr'' : w.heap.size + 1 < wr.heap.size := by omega
    have hb2r : Below W2.heap.size W2 wr := hb3.trans (hb.mono hs3)
    have Htt : Hid ((fgP R R.length).2 = fgT (rL fs rs)) := by show _ = _; rw [unhide HRe]; rfl
    obtain rfl := unhide HRe
    generalize (fgP (rL fs rs) (rL fs rs).length).2 = tt at *
    have hOl2 : (fgL (rL fs rs)).length ≤ 256 := by rw [fgL_len]; exact hOl
    have hO3 : Objs wr.heap.size wr ao (readG fs rs).objs := ((unhide HO).below hb2r).mono hb2r.size
    have hV3 : Vals wr.heap.size wr ar2 (readG fs rs).roots := ((unhide HV).below hb2r).mono hb2r.size
    have HcA : Hid (∀ X, Below wr.heap.size wr X → Calls Try.prog 31 #[.agg #[.slice ao (readG fs rs).objs.length co, .slice ar2 (readG fs rs).roots.length cr2], .slice a' (fgL (rL fs rs)).length cap'] X fun e w' => ∃ v, e = .returned v ∧ RnS X (readG fs rs) (fgL (rL fs rs)) v w') := by
      intro X hb
      refine (renum_c ao ar2 a' co cr2 cap' (readG fs rs) (fgL (rL fs rs)) X ((hO3.below hb).mono hb.size) ((hV3.below hb).mono hb.size) ((hV'.below hb).mono hb.size) (unhide HG) hOl2 (fun o ho => (unhide HWh).rng o ho)).mono ?_
      rintro e w' ⟨x1, x2, x3, x4, rfl, ⟨base, es, _, hrow⟩, h6, _, h8⟩
      obtain ⟨va, vc, hv, hO'⟩ := hrow.objs (by have := (good_ren (unhide HG) (unhide HWh)).n24; exact Nat.le_trans this (by omega))
      injection hv with h1 _ h3
      subst h1 h3
      exact ⟨_, rfl, _, _, _, _, rfl, hO', h6, h8⟩
    have HcH : Hid (∀ X, Below wr.heap.size wr X → Calls Try.prog 32 #[.agg #[.slice aw ws.length cw, .slice ar rs.length cr], .slice a' (fgL (rL fs rs)).length cap', .int .i64 0] X fun e w' => ∃ v, e = .returned v ∧ HdS X hs (fgL (rL fs rs)) v w') := by
      intro X hb
      have hbX : Below w.heap.size w X := hbwr.trans (hb.mono (by omega))
      refine (headsOf0_c aw ar a' cw rs.length cr cap' ws hs fs (fgL (rL fs rs)) X.heap.size X ((hW.below (hbX.mono hB)).mono (by have := hbX.size; omega)) hUW (Nat.le_refl _) (unhide HA).fit (unhide Hws) h256 ((hV'.below hb).mono hb.size) (unhide HR) hOl2).mono ?_
      rintro e w' ⟨⟨a, c, rfl, h1⟩, h2⟩
      exact ⟨_, rfl, a, c, rfl, h1, h2⟩
    have HcL := hide (fun X ao ar ah co cr ch h1 h2 h3 => lay_fing (unhide HA) ao ar ah co cr ch X h1 h2 h3)
    clear hW2 hb3 hO3 hV3 hV' HO HV Hc2 hW hR
    generalize readG fs rs = g at *
    go_wp2_with fail
    have hbd : Below wr.heap.size wr wr.drew := (Below.refl _ _).drew
    have hbwd : Below w.heap.size w wr.drew := hbwr.trans (hbd.mono (by omega))
    go_region_law (first
      | (refine step_call rfl 31 #[.agg #[.slice ao g.objs.length co, .slice ar2 g.roots.length cr2], .slice a' (fgL (rL fs rs)).length cap'] (by go_simp) (fun v w' => RnS wr.drew g (fgL (rL fs rs)) v w') (unhide HcA _ hbd) ?_; rintro vA wA ⟨a6, c6, r6, d6, rfl, hOA, hVA, hbA⟩; have hsA := hbA.size; have hb3A : Below wr.heap.size wr wA := hbd.trans hbA; have g0A := (hbA.cell (p := ⟨w.heap.size, 0, none⟩) hlr').trans g0; have g1A := (hbA.cell (p := ⟨w.heap.size, 1, none⟩) hlr').trans g1)
      | (refine step_call rfl 32 #[.agg #[.slice aw ws.length cw, .slice ar rs.length cr], .slice a' (fgL (rL fs rs)).length cap', .int .i64 0] (by go_simp) (fun v w' => HdS wr.drew hs (fgL (rL fs rs)) v w') (unhide HcH _ hbd) ?_; rintro vH wH ⟨ha, hc, rfl, hHH0, hbH0⟩; have hsH0 := hbH0.size; have hb3H : Below wr.heap.size wr wH := hbd.trans hbH0; have k0H := (hbH0.cell (p := ⟨w2.heap.size, 0, none⟩) hlr).trans k0; have k1H := (hbH0.cell (p := ⟨w2.heap.size, 1, none⟩) hlr).trans k1)
      | (refine step_call rfl 32 #[.agg #[.slice aw ws.length cw, .slice ar rs.length cr], .slice a' (fgL (rL fs rs)).length cap', .int .i64 0] (by go_simp) (fun v w' => HdS wA hs (fgL (rL fs rs)) v w') (unhide HcH _ hb3A) ?_; rintro vH wH ⟨ha, hc, rfl, hHH, hbH⟩; have hsH := hbH.size; have hOH := (hOA.below hbH).mono hbH.size; have hVH := (hVA.below hbH).mono hbH.size; have hb3Z : Below wr.heap.size wr wH := hb3A.trans (hbH.mono hsA))
      | (refine step_call rfl 31 #[.agg #[.slice ao g.objs.length co, .slice ar2 g.roots.length cr2], .slice a' (fgL (rL fs rs)).length cap'] (by go_simp) (fun v w' => RnS wH g (fgL (rL fs rs)) v w') (unhide HcA _ hb3H) ?_; rintro vA wA ⟨a6, c6, r6, d6, rfl, hOA1, hVA1, hbA1⟩; have hsA1 := hbA1.size; have hHA := (hHH0.below hbA1).mono hbA1.size; have hb3Z : Below wr.heap.size wr wA := hb3H.trans (hbA1.mono hsH0))
      | (refine step_call rfl 30 #[.agg #[.slice a6 (renL g (fgL (rL fs rs))).objs.length c6, .slice r6 (renL g (fgL (rL fs rs))).roots.length d6], .slice ha (fgL (rL fs rs)).length hc] (by go_simp) (fun v w' => LyS wH (fuL hs fs rs) (fuR fs rs) v w') (unhide HcL _ _ _ _ _ _ _ hOH hVH hHH) ?_; rintro vL w5 ⟨aw', cw', ar', cr', rfl, h1, h2, hbL⟩; have hbZ : Below wr.heap.size wr w5 := hb3Z.trans (hbL.mono hb3Z.size); have hs5 := hbZ.size; have hrb5 : w5.heap[w.heap.size + 1]? = some (.cells #[.slice none 0 0, .slice none 0 0] 24) := (hbZ.block (w.heap.size + 1) (by omega)).trans (unhide Hr0); have r0 : w5.cell? ⟨w.heap.size + 1, 0, none⟩ = some (.slice none 0 0) := by { rw [cell_of_row w5 (w.heap.size + 1) 0 _ 24 (0, 0) hrb5]; rfl }; have r1 : w5.cell? ⟨w.heap.size + 1, 1, none⟩ = some (.slice none 0 0) := by { rw [cell_of_row w5 (w.heap.size + 1) 1 _ 24 (0, 0) hrb5]; rfl }; have z0 : w5.frozen? ⟨w.heap.size + 1, 0, none⟩ = false := frozen_of_row _ _ 0 _ 24 hrb5; have z1 : w5.frozen? ⟨w.heap.size + 1, 1, none⟩ = false := frozen_of_row _ _ 1 _ 24 hrb5; have hl5 : w.heap.size + 1 < w5.heap.size := by omega)
      | (refine step_call rfl 30 #[.agg #[.slice a6 (renL g (fgL (rL fs rs))).objs.length c6, .slice r6 (renL g (fgL (rL fs rs))).roots.length d6], .slice ha (fgL (rL fs rs)).length hc] (by go_simp) (fun v w' => LyS wA (fuL hs fs rs) (fuR fs rs) v w') (unhide HcL _ _ _ _ _ _ _ hOA1 hVA1 hHA) ?_; rintro vL w5 ⟨aw', cw', ar', cr', rfl, h1, h2, hbL⟩; have hbZ : Below wr.heap.size wr w5 := hb3Z.trans (hbL.mono hb3Z.size); have hs5 := hbZ.size; have hrb5 : w5.heap[w.heap.size + 1]? = some (.cells #[.slice none 0 0, .slice none 0 0] 24) := (hbZ.block (w.heap.size + 1) (by omega)).trans (unhide Hr0); have r0 : w5.cell? ⟨w.heap.size + 1, 0, none⟩ = some (.slice none 0 0) := by { rw [cell_of_row w5 (w.heap.size + 1) 0 _ 24 (0, 0) hrb5]; rfl }; have r1 : w5.cell? ⟨w.heap.size + 1, 1, none⟩ = some (.slice none 0 0) := by { rw [cell_of_row w5 (w.heap.size + 1) 1 _ 24 (0, 0) hrb5]; rfl }; have z0 : w5.frozen? ⟨w.heap.size + 1, 0, none⟩ = false := frozen_of_row _ _ 0 _ 24 hrb5; have z1 : w5.frozen? ⟨w.heap.size + 1, 1, none⟩ = false := frozen_of_row _ _ 1 _ 24 hrb5; have hl5 : w.heap.size + 1 < w5.heap.size := by omega))
    all_goals
      have hnn : NoNum w5 (w.heap.size + 1) := ⟨_, 24, hrb5, fun i k x => by
        match i with
        | 0 => simp
        | 1 => simp
        | i + 2 => simp⟩
      have Hfin : Hid (∀ W, W = (w5.setCell ⟨w.heap.size + 1, 0, none⟩ (.slice aw' (fuL hs fs rs).length cw')).setCell ⟨w.heap.size + 1, 1, none⟩ (.slice ar' (fuR fs rs).length cr') → RSq (fuL hs fs rs) (fuR fs rs) (fgT (rL fs rs)) (.returned (.tuple #[.agg #[.slice aw' (fuL hs fs rs).length cw', .slice ar' (fuR fs rs).length cr'], .int .i64 (tt : Nat)])) W ∧ Below w.heap.size w W) := fun W h => by
        subst h
        have hsz5 : ((w5.setCell ⟨w.heap.size + 1, 0, none⟩ (.slice aw' (fuL hs fs rs).length cw')).setCell ⟨w.heap.size + 1, 1, none⟩ (.slice ar' (fuR fs rs).length cr')).heap.size = w5.heap.size := by simp [World.setCell]
        have hn1 := hnn.set (j := 0) (u := .slice aw' (fuL hs fs rs).length cw') (by simp)
        refine ⟨⟨aw', cw', ar', cr', by rw [unhide Htt], ?_, ?_⟩, ((hbwr.trans (hbZ.mono (by omega))).setCell (p := ⟨w.heap.size + 1, 0, none⟩) (by simp) _).setCell (p := ⟨w.heap.size + 1, 1, none⟩) (by simp) _⟩
        · rw [hsz5]; exact hn1.wds (hnn.wds h1 _) _
        · rw [hsz5]; exact hn1.wds (hnn.wds h2 _) _
      clear h1 h2 hnn hrb5
      generalize (fuL hs fs rs).length = n at *
      generalize (fuR fs rs).length = m at *
      go_wp2
      exact bodyPost_ret (v := .tuple #[.agg #[.slice aw' n cw', .slice ar' m cr'], .int .i64 (tt : Nat)]) (by simp [results, Try.results10, go_sem, r0, r1]) rfl (unhide Hfin _ rfl)

end Go.Proofs.Ytemjhdbmcdlpeaa
