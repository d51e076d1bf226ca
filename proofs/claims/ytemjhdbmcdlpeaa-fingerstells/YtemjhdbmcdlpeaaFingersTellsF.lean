/- Merged texts: Mg Mi Mj Ml Mm Mn Mo Mp Kh Tb Kk La Lb Lc Ld Le Lf Li. -/
import Derived.Test.YtemjhdbmcdlpeaaProg
import Derived.Test.YtemjhdbmcdlpeaaFingersTellsE
import Derived.Deep.RegionLaw
import Derived.Deep.CutRange
import Derived.OwnWalk
import Derived.StillTailTactics
import Derived.Laws.CopyOwn
import Derived.Deep.RegionWith
import Derived.Deep.Cut
import Derived.BigQuiet

/- Walks: climb. -/
namespace Go.Proofs.Ytemjhdbmcdlpeaa
set_option linter.unusedSimpArgs false
set_option linter.unusedVariables false
open Go.RowKit Go.Shelf
attribute [local go_sem] field51_0 field51_1

/-- What holds while objects are marked: E are those that are still to be gone through. -/
structure Inv (fs : List (List Int)) (rs : List Int) (E : Nat → Prop) (n0 : Nat) (p : Nat → Bool) (K : List Nat) (lost : Bool) : Prop where
  rch : ∀ j, p j = true → Rch fs rs j
  inb : ∀ j ∈ K, j < fs.length
  km : ∀ j ∈ K, p j = true
  cl : lost = false → ∀ j, p j = true → E j ∨ j ∈ K ∨ Cl fs p j
  le : unm fs.length p ≤ n0
  ls : lost = true → unm fs.length p < n0

theorem Inv.full {fs : List (List Int)} {rs : List Int} {E : Nat → Prop} {n0 : Nat} {p : Nat → Bool} {K : List Nat} {lost : Bool} (h : Inv fs rs E n0 p K lost) {j : Nat} (hj : j < fs.length) (hp : p j = false) (hr : Rch fs rs j) : Inv fs rs E n0 (upd p j) K true := by
  have hu := unm_upd hj hp
  have := h.le
  refine ⟨fun k hk => ?_, h.inb, fun k hk => upd_le (h.km k hk), fun e => (by cases e), by omega, fun _ => by omega⟩
  rcases upd_inv hk with rfl | hk
  · exact hr
  · exact h.rch k hk

theorem Inv.push {fs : List (List Int)} {rs : List Int} {E : Nat → Prop} {n0 : Nat} {p : Nat → Bool} {K : List Nat} {lost : Bool} (h : Inv fs rs E n0 p K lost) {j : Nat} (hj : j < fs.length) (hp : p j = false) (hr : Rch fs rs j) : Inv fs rs E n0 (upd p j) (K ++ [j]) lost := by
  have hu := unm_upd hj hp
  have := h.le
  refine ⟨fun k hk => ?_, fun k hk => ?_, fun k hk => ?_, fun e k hk => ?_, by omega, fun e => by have := h.ls e; omega⟩
  · rcases upd_inv hk with rfl | hk
    · exact hr
    · exact h.rch k hk
  · rcases List.mem_append.1 hk with hk | hk
    · exact h.inb k hk
    · simp at hk; subst hk; exact hj
  · rcases List.mem_append.1 hk with hk | hk
    · exact upd_le (h.km k hk)
    · simp at hk; subst hk; exact upd_self _ _
  · rcases upd_inv hk with rfl | hk
    · exact .inr (.inl (by simp))
    · rcases h.cl e k hk with h1 | h1 | h1
      · exact .inl h1
      · exact .inr (.inl (by simp [h1]))
      · exact .inr (.inr h1.upd)

theorem Inv.pop {fs : List (List Int)} {rs : List Int} {E : Nat → Prop} {n0 : Nat} {p : Nat → Bool} {K : List Nat} {i : Nat} {lost : Bool} (h : Inv fs rs E n0 p (K ++ [i]) lost) (hc : Cl fs p i) : Inv fs rs E n0 p K lost := by
  refine ⟨h.rch, fun k hk => h.inb k (by simp [hk]), fun k hk => h.km k (by simp [hk]), fun e k hk => ?_, h.le, h.ls⟩
  rcases h.cl e k hk with h1 | h1 | h1
  · exact .inl h1
  · rcases List.mem_append.1 h1 with h1 | h1
    · exact .inr (.inl h1)
    · simp at h1; subst h1; exact .inr (.inr hc)
  · exact .inr (.inr h1)

/-- How many places are kept, as memory tells. -/
def mesK (mb : Nat) (w : World) : Nat := match w.cell? ⟨mb, 3, none⟩ with
  | some (.slice _ n _) => n
  | _ => 0
/-- How many objects are not marked, as memory tells. -/
def mesU (vw : Value) (fs : List (List Int)) (w : World) : Nat := ((List.range fs.length).filter fun (i : Nat) => match w.cell? ⟨vw.ownBlock.getD 0, tot (fs.take i), none⟩ with
  | some (.int _ x) => !uhM x
  | _ => false).length

theorem mesK_eq {W : World} {N mb : Nat} {vw vr : Value} {hs : List Int} {fs : List (List Int)} {rs : List Int} {room : Nat} {p : Nat → Bool} {K : List Nat} {lost : Bool} (h : MkA W N mb vw vr hs fs rs room p K lost) : mesK mb W = K.length := by
  obtain ⟨vk, h⟩ := h
  obtain ⟨a, c, hv⟩ := ownsRow_slice h.ko
  subst hv
  unfold mesK
  rw [h.box.c3, plc_len]

theorem mesU_eq {W : World} {N mb : Nat} {vw vr : Value} {hs : List Int} {fs : List (List Int)} {rs : List Int} {room : Nat} {p : Nat → Bool} {K : List Nat} {lost : Bool} (h : MkA W N mb vw vr hs fs rs room p K lost) (hF : Fit hs fs) : mesU vw fs W = unm fs.length p := by
  obtain ⟨vk, h⟩ := h
  unfold mesU unm
  congr 1
  apply List.filter_congr
  intro i hi
  have hi' : i < fs.length := List.mem_range.1 hi
  have hml := mW_len hF p
  have hpl := place_lt hi'
  obtain ⟨wb, cap, hvw, _⟩ := h.words (by rw [hml]; omega)
  rw [hml] at hvw
  subst hvw
  obtain ⟨x, hx, _⟩ := fit_at hF hi'
  have := (h.wcell hml.symm (mW_get hF p hx)).1
  show (match W.cell? ⟨wb, tot (fs.take i), none⟩ with | some (.int _ x) => !uhM x | _ => false) = _
  rw [this]
  simp only [(reh_ok (p i) x).2.2.1]

/-- What climb leaves. -/
def ClRes (N mb : Nat) (vw vr : Value) (hs : List Int) (fs : List (List Int)) (rs : List Int) (room : Nat) (E : Nat → Prop) (n0 : Nat) (p : Nat → Bool) (W : World) : Prop :=
  ∃ p' lost', MkA W N mb vw vr hs fs rs room p' [] lost' ∧ Inv fs rs E n0 p' [] lost' ∧ ∀ j, p j = true → p' j = true

/-- The fields of an object that is kept, in memory. -/
theorem fld_wds {W : World} {N mb wb cap : Nat} {vr vk : Value} {hs : List Int} {fs : List (List Int)} {rs PK : List Int} {room : Nat} {lost : Bool} {p : Nat → Bool} (h : Mk W N mb (.slice (some ⟨wb, 0, none⟩) (tot fs) cap) vr vk (mW hs fs p) rs PK room lost) (hF : Fit hs fs) {i : Nat} {f : List Int} (hf : fs[i]? = some f) (h4 : f.length ≤ 4)
    {a : Option Addr} (ha : 0 < f.length → a = some ⟨wb, tot (fs.take i) + 1, none⟩) : Wds W.heap.size W a f := by
  refine ⟨by omega, fun hne => ?_⟩
  have hpos : 0 < f.length := List.length_pos_iff.2 hne
  have hml := mW_len hF p
  refine ⟨wb, tot (fs.take i) + 1, ha hpos, ?_, fun k v hk => ?_⟩
  · exact (h.wo.lt wb rfl).2
  · have hj := joinW_fields (mkH hs p) fs i f (by rw [mkH_len]; exact hF.len) hf
    have hk' : k < f.length := (List.getElem?_eq_some_iff.1 hk).1
    have : (mW hs fs p)[tot (fs.take i) + 1 + k]? = some v := by
      rw [← hj, List.getElem?_take, if_pos hk', List.getElem?_drop] at hk
      exact hk
    exact (h.wcell hml.symm this).1

set_option maxRecDepth 100000 in
set_option maxHeartbeats 2000000 in
theorem climb_c (hs : List Int) (fs : List (List Int)) (rs : List Int) (E : Nat → Prop) (n0 : Nat) (p : Nat → Bool) (K : List Nat) (N mb : Nat) (vw vr : Value) (room : Nat) (lost : Bool) (w : World)
    (hM : MkA w N mb vw vr hs fs rs room p K lost) (hA : Arn hs fs rs) (hroom : room ≤ 64) (hK : K.length ≤ room) (hI : Inv fs rs E n0 p K lost) :
    Calls Try.prog 57 #[.pointer (some ⟨mb, 0, none⟩)] w fun e w' => (e = .returned (.tuple #[]) ∧ ClRes N mb vw vr hs fs rs room E n0 p w') ∧ Below N w w' ∧ KeepT w w' := by
  have hF := hA.fit
  have h256 := hA.n256
  have HA := hide hA
  have HF := hide hF
  have HM0 := hide hM
  have HI0 := hide hI
  clear hA hF hM hI
  go_enter Try.func57, Try.ntmps57
  go_wp2
  go_loopw [] (fun wr => ∃ p' K' lost', Hid (MkA wr N mb vw vr hs fs rs room p' K' lost') ∧ Hid (Inv fs rs E n0 p' K' lost') ∧ Hid (∀ j, p j = true → p' j = true) ∧ K'.length ≤ room ∧ Below N w wr ∧ Hid (KeepT w wr)) (fun wr => 2 * mesU vw fs wr + mesK mb wr)
  case atStart => exact ⟨p, K, lost, HM0, HI0, hide (fun j h => h), hK, Below.refl _ _, hide (KeepT.refl _)⟩
  case round =>
    clear HM0 HI0 hK
    obtain ⟨p', K', lost', HM, HI, Hle, hKr, hb, Hkt⟩ := hrel
    have HmU := hide (mesU_eq (unhide HM) (unhide HF))
    have HmK := hide (mesK_eq (unhide HM))
    have HMA := HM
    obtain ⟨vk, HM⟩ := unhide HM
    replace HM := hide HM
    rcases List.eq_nil_or_concat K' with rfl | ⟨K0, i, hK'⟩
    · have q3 := (unhide HM).box.c3
      obtain ⟨ka, kc, hv⟩ := ownsRow_slice (unhide HM).ko
      subst hv
      rw [plc_len] at q3
      simp only [List.length_nil] at q3
      have hlm := (unhide HM).box.lt
      go_wp2
      exact bodyPost_end (v := .tuple #[]) (results_none rfl _ _ _) rfl ⟨⟨rfl, p', lost', unhide HMA, unhide HI, unhide Hle⟩, hb, unhide Hkt⟩
    · rw [List.concat_eq_append] at hK'
      subst hK'
      have hi : i < fs.length := (unhide HI).inb i (by simp)
      have hKl : K0.length + 1 ≤ room := by simpa using hKr
      have HM1 : Hid (Mk wr N mb vw vr vk (mW hs fs p') rs (plc fs K0 ++ [((tot (fs.take i) : Nat) : Int)]) room lost') := by
        have := unhide HM
        rw [plc_snoc] at this
        exact this
      obtain ⟨g, kc, hvk, hkc, hgl, hcl⟩ := (unhide HM1).last
      rw [plc_len] at hvk hkc hcl
      subst hvk
      have q3 := (unhide HM1).box.c3
      have z3 := (unhide HM1).box.fr 3
      have hlm := (unhide HM1).box.lt
      have hmN := (unhide HM1).lo
      have hml := mW_len (unhide HF) p'
      have hpl := place_lt hi
      obtain ⟨wb, cap, hvw, hwN, hwb, hcap⟩ := (unhide HM1).words (by rw [hml]; omega)
      rw [hml] at hvw hcap
      subst hvw
      obtain ⟨x, hx, hx1, hx2, hx3, hx4⟩ := fit_at (unhide HF) hi
      have hr2 := reh_ok (p' i) x
      have hmg := mW_get (unhide HF) p' hx
      have h4 : fs[i].length ≤ 4 := by rw [← hx2]; exact wlen_le hx1
      have hts := tot_take_succ hi
      have htl := tot_take_le fs (i + 1)
      have Hfld : Hid (Calls Try.prog 64 #[.pointer (some ⟨mb, 0, none⟩), .int .i64 (tot (fs.take i) : Nat)] wr fun e w' => FldRes wb (tot (fs.take i)) fs[i].length e ∧ Below wr.heap.size wr w') := by
        have := fields_c mb wb (tot fs) cap _ _ wr (unhide HM1).box.c0 ((unhide HM1).wcell hml.symm hmg).1 h256 hcap hr2.2.2.2.2.1 hr2.2.2.2.2.2 hr2.1 (by rw [reh_wlen hx1, hx2]; omega)
        rw [reh_wlen hx1, hx2] at this
        exact this
      have Hun : Hid (∀ W a c, Below wr.heap.size wr W → (0 < fs[i].length → a = some ⟨wb, tot (fs.take i) + 1, none⟩) → Calls Try.prog 55 #[.pointer (some ⟨mb, 0, none⟩), .slice a fs[i].length c] W fun e w' => UnRes fs p' fs[i] e ∧ Below W.heap.size W w') := fun W a c hbW ha => by
        have hMW := (unhide HM1).below hbW
        exact unmarked_c a c fs[i] hs fs p' N mb _ vr _ rs _ room lost' W hMW (unhide HF) h256 (fld_wds hMW (unhide HF) (List.getElem?_eq_getElem hi) h4 ha) ((unhide HA).uf _ (List.getElem_mem hi)) (by omega) ((unhide HA).okf _ (List.getElem_mem hi))
      have Htk : Hid (∀ W j, Below wr.heap.size wr W → j < fs.length → Calls Try.prog 56 #[.pointer (some ⟨mb, 0, none⟩), .int .i64 (tot (fs.take j) : Nat)] W fun e w' => (e = .returned (.tuple #[]) ∧ TkRes N mb (.slice (some ⟨wb, 0, none⟩) (tot fs) cap) vr hs fs rs room p' (K0 ++ [i]) lost' j w') ∧ Below N W w' ∧ KeepT W w') := fun W j hbW hj =>
        take_c hs fs rs p' (K0 ++ [i]) N mb _ vr room j lost' W ((unhide HMA).below hbW) (unhide HF) h256 hroom hKr hj
      have Hfi := hide (List.getElem?_eq_getElem hi)
      have hNw : N ≤ wr.heap.size := by omega
      clear hml hmg hr2 hx hx1 hx2 hx3 hx4 hts htl HM
      generalize fs[i] = f at *
      have w1 : IntKind.i64.wrap (((K0.length + 1 : Nat) : Int) - 1) = (K0.length : Int) := by rw [IntKind.wrap_i64]; omega
      have e1 : ((K0.length + 1 : Nat) : Int) - 1 = (K0.length : Int) := by omega
      go_wp2_with fail
      refine (unhide Hfld).mono ?_
      rintro e w2 ⟨⟨fa, fc, he, hfa⟩, hb2⟩
      subst he
      have Hun2 := hide (unhide Hun w2 fa fc hb2 hfa)
      clear Hfld Hun hfa
      go_wp2_with fail
      refine (unhide Hun2).mono ?_
      rintro e w3 ⟨hres, hb3⟩
      have hs2 := hb2.size
      have hs3 := hb3.size
      have hb23 : Below wr.heap.size wr w3 := hb2.trans (hb3.mono hs2)
      clear Hun2
      rcases hres with ⟨j, hj, hpj, hto, he⟩ | ⟨hall, he⟩
      · subst he
        have Htk2 := hide (unhide Htk w3 j hb23 hj)
        have Hr : Hid (Rch fs rs j) := hide (rch_step ((unhide HI).rch i ((unhide HI).km i (by simp))) (unhide Hfi) hto)
        have Hpj := hide hpj
        clear hto hpj Htk
        go_wp2_with fail
        refine (unhide Htk2).mono ?_
        rintro e w4 ⟨⟨he, hres⟩, hb4, hk4⟩
        subst he
        have Hk4 := hide ((unhide Hkt).trans ((KeepT.below hb23).trans hk4))
        clear hk4
        have Hres := hide hres
        clear hres Htk2
        have hbw4 : Below N w w4 := (hb.trans (hb23.mono hNw)).trans hb4
        go_wp2
        go_roundw
        case rel =>
          rcases unhide Hres with ⟨h1, h2⟩ | ⟨h1, h2⟩
          · exact ⟨_, _, _, hide h2, hide ((unhide HI).full hj (unhide Hpj) (unhide Hr)), hide (fun k hk => upd_le (unhide Hle k hk)), hKr, hbw4, Hk4⟩
          · exact ⟨_, _, _, hide h2, hide ((unhide HI).push hj (unhide Hpj) (unhide Hr)), hide (fun k hk => upd_le (unhide Hle k hk)), by rw [List.length_append, List.length_singleton]; omega, hbw4, Hk4⟩
        case measure =>
          have hu := unm_upd hj (unhide Hpj)
          rw [unhide HmU, unhide HmK]
          rcases unhide Hres with ⟨h1, h2⟩ | ⟨h1, h2⟩
          · rw [mesU_eq h2 (unhide HF), mesK_eq h2]; omega
          · rw [mesU_eq h2 (unhide HF), mesK_eq h2]; simp only [List.length_append, List.length_singleton]; omega
      · subst he
        have hM3 := (unhide HM1).below hb23
        have r3 := hM3.box.c3
        have t3 := hM3.box.fr 3
        have Hpop := hide (hM3.pop (plc_len fs K0))
        have Hcl : Hid (Cl fs p' i) := hide (fun f' j hf' ht => by rw [unhide Hfi] at hf'; injection hf' with hf'; subst hf'; exact hall j ht)
        have hlm3 := hM3.box.lt
        have Hk3 := hide (((unhide Hkt).trans (KeepT.below hb23)).setCell (j := 3) hM3.box.ty (.inr (.inr rfl)) (.slice (some ⟨g, 0, none⟩) K0.length kc))
        clear hM3 hall Htk
        go_wp2
        go_roundw
        case rel => exact ⟨p', K0, lost', hide ⟨_, unhide Hpop⟩, hide ((unhide HI).pop (unhide Hcl)), Hle, by omega, (hb.trans (hb23.mono hNw)).setCell (p := ⟨mb, 3, none⟩) hmN _, Hk3⟩
        case measure =>
          have h2 : MkA (w3.setCell ⟨mb, 3, none⟩ (.slice (some ⟨g, 0, none⟩) K0.length kc)) N mb (.slice (some ⟨wb, 0, none⟩) (tot fs) cap) vr hs fs rs room p' K0 lost' := ⟨_, unhide Hpop⟩
          rw [unhide HmU, unhide HmK, mesU_eq h2 (unhide HF), mesK_eq h2, List.length_append, List.length_singleton]; omega

end Go.Proofs.Ytemjhdbmcdlpeaa

/- Walks: newMarker's closure; all marks away. -/
namespace Go.Proofs.Ytemjhdbmcdlpeaa
set_option linter.unusedSimpArgs false
set_option linter.unusedVariables false
open Go.RowKit Go.Shelf
attribute [local go_sem] field51_0 field51_1

/-- The arena of which the first k objects are without marks. -/
def fW (hs : List Int) (fs : List (List Int)) (k : Nat) : List Int := joinW (mkF hs k) fs

theorem fW_len {hs : List Int} {fs : List (List Int)} (h : Fit hs fs) (k : Nat) : (fW hs fs k).length = tot fs := by
  rw [fW, joinW_len _ _ (by rw [mkF_len]; exact h.len)]
theorem fW_get {hs : List Int} {fs : List (List Int)} (h : Fit hs fs) {i : Nat} {x : Int} (hx : hs[i]? = some x) : (fW hs fs i)[tot (fs.take i)]? = some x := by
  have hi : i < fs.length := by have := (List.getElem?_eq_some_iff.1 hx).1; have := h.len; omega
  rw [fW, joinW_get _ _ _ (by rw [mkF_len]; exact h.len) hi, mkF_get, hx]
  simp
theorem fW_set {hs : List Int} {fs : List (List Int)} (h : Fit hs fs) {i : Nat} {x : Int} (hx : hs[i]? = some x) : (fW hs fs i).set (tot (fs.take i)) (reh false x) = fW hs fs (i + 1) := by
  have hi : i < fs.length := by have := (List.getElem?_eq_some_iff.1 hx).1; have := h.len; omega
  rw [fW, joinW_set _ _ _ _ (by rw [mkF_len]; exact h.len) hi, mkF_set hx, fW]

theorem cell_of_box {W : World} {b : Nat} {v : Value} {t : TypeId} (h : W.heap[b]? = some (.cells #[v] t)) : W.cell? ⟨b, 0, none⟩ = some v := by
  rw [cell_of_row W b 0 _ t (0, 0) h]; rfl

set_option maxRecDepth 100000 in
set_option maxHeartbeats 1000000 in
theorem nm1_c (pb mb wb n cap q : Nat) (x L A : Int) (M : Bool) (w : World) (hp : w.heap[pb]? = some (.cells #[.pointer (some ⟨mb, 0, none⟩)] 77)) (h0 : w.cell? ⟨mb, 0, none⟩ = some (.slice (some ⟨wb, 0, none⟩) n cap)) (hx : w.cell? ⟨wb, q, none⟩ = some (.int .u64 x)) (hf : w.frozen? ⟨wb, q, none⟩ = false) (hq : q < n) (hn : n ≤ 256) :
    Calls Try.prog 53 #[.int .i64 (q : Nat), .agg #[.int .i64 L, .bool M, .int .i64 A], .pointer (some ⟨pb, 0, none⟩)] w fun e w' => e = .returned (.tuple #[]) ∧ ∃ w1, Below w.heap.size w w1 ∧ w' = w1.setCell ⟨wb, q, none⟩ (.int .u64 (headW L false A)) := by
  have hlm : mb < w.heap.size := World.block_lt_of_cell? w _ h0
  have hlw : wb < w.heap.size := World.block_lt_of_cell? w _ hx
  have hlp : pb < w.heap.size := (Array.getElem?_eq_some_iff.1 hp).1
  have hcp := cell_of_box hp
  have hb0 : Below w.heap.size w (w.alloc (.cells #[.int .i64 L, .bool M, .int .i64 A] 32)) := (Below.refl _ _).alloc (Nat.le_refl _) _
  have Hc := hide (set_w mb wb n cap q x L A M false _ ((hb0.cell (p := ⟨mb, 0, none⟩) hlm).trans h0) ((hb0.cell (p := ⟨wb, q, none⟩) hlw).trans hx) ((hb0.frozen (p := ⟨wb, q, none⟩) hlw).trans hf) hq hn)
  clear hp
  go_enter Try.func53, Try.ntmps53
  go_wp2_with fail
  refine (unhide Hc).mono ?_
  rintro e w2 ⟨rfl, w1, hb1, rfl⟩
  go_wp2
  exact bodyPost_end (v := .tuple #[]) (results_none rfl _ _ _) rfl ⟨rfl, w1, hb0.trans (hb1.mono (by simp)), rfl⟩

/-- What holds while marks are taken away. -/
def NmI (w0 : World) (N mb pb : Nat) (vw vr vk : Value) (hs : List Int) (fs : List (List Int)) (rs : List Int) (room : Nat) (k : Nat) (W : World) : Prop :=
  Mk W N mb vw vr vk (fW hs fs k) rs [] room false ∧ W.heap[pb]? = some (.cells #[.pointer (some ⟨mb, 0, none⟩)] 77) ∧ Below N w0 W ∧ KeepT w0 W

theorem nmEach (N mb pb cap : Nat) (a : Option Addr) (vr vk : Value) (hs : List Int) (fs : List (List Int)) (rs : List Int) (room : Nat) (w : World) (hF : Fit hs fs) (h256 : tot fs ≤ 256)
    (hM : Mk w N mb (.slice a (tot fs) cap) vr vk (joinW hs fs) rs [] room false) (hp : w.heap[pb]? = some (.cells #[.pointer (some ⟨mb, 0, none⟩)] 77)) :
    Calls Try.prog 52 #[.slice a (tot fs : Nat) cap, .func (.func 53) #[] #[.pointer (some ⟨pb, 0, none⟩)]] w fun e w' => e = .returned (.tuple #[]) ∧ NmI w N mb pb (.slice a (tot fs) cap) vr vk hs fs rs room fs.length w' := by
  refine each39_c _ a cap fs (NmI w N mb pb (.slice a (tot fs) cap) vr vk hs fs rs room) w h256 ⟨?_, hp, Below.refl _ _, KeepT.refl _⟩ ?_
  · rw [fW, mkF_zero]; exact hM
  · intro k hk W hI
    obtain ⟨hMW, hpW, hbW, hkW⟩ := hI
    obtain ⟨x, hx, hx1, hx2, hx3, hx4⟩ := fit_at hF hk
    have hml := fW_len hF k
    have hpl := place_lt hk
    obtain ⟨wb, cap', hvw, hwN, hwb, hcap⟩ := hMW.words (by rw [hml]; omega)
    rw [hml] at hvw
    injection hvw with h1 _ h3
    subst h1 h3
    have hg := fW_get hF hx
    have hc := (hMW.wcell hml.symm hg).1
    refine ⟨wb, 0, x, rfl, by rw [Nat.zero_add]; exact hc, hx3, hx4, hx1, hx2, fun W' hb' => ?_⟩
    have hM' := hMW.below hb'
    have hp' : W'.heap[pb]? = some (.cells #[.pointer (some ⟨mb, 0, none⟩)] 77) := by rw [hb'.block pb (Array.getElem?_eq_some_iff.1 hpW).1]; exact hpW
    refine (nm1_c pb mb wb (tot fs) cap _ x _ (uhA x) (uhM x) W' hp' hM'.box.c0 (hM'.wcell hml.symm hg).1 (hM'.wcell hml.symm hg).2 hpl h256).mono ?_
    rintro e W2 ⟨rfl, w1, hb1, rfl⟩
    have hM1 := hM'.below hb1
    have hty := ty_row (show w1.ownsRow N 56 1 (.slice (some ⟨wb, 0, none⟩) (tot fs) cap) (tot fs) (wordsV (fW hs fs k)) from by have := hM1.wo; rw [hml] at this; exact this)
    have hkt : KeepT W' (w1.setCell ⟨wb, tot (fs.take k), none⟩ (.int .u64 (headW (fs[k].length : Int) false (uhA x)))) := (KeepT.below hb1).setCell hty (.inl rfl) _
    refine ⟨rfl, ⟨?_, ?_, ?_, ?_⟩, hkt.k51, by have := hb1.size; simpa [World.setCell] using this⟩
    · have := hM1.setW hml.symm (tot (fs.take k)) (headW (fs[k].length : Int) false (uhA x))
      have e : headW (fs[k].length : Int) false (uhA x) = reh false x := by
        unfold reh
        rw [uhL_wlen hx1, hx2]
      rw [e, fW_set hF hx] at this
      rw [e]
      exact this
    · exact hkt pb _ 77 hp' (by decide) (by decide) (by decide)
    · exact (hbW.trans ((hb'.trans (hb1.mono hb'.size)).mono (by omega))).setCell (p := ⟨wb, tot (fs.take k), none⟩) hwN _
    · exact (hkW.trans (KeepT.below hb')).trans hkt

end Go.Proofs.Ytemjhdbmcdlpeaa

/- Walks: again's closure. -/
namespace Go.Proofs.Ytemjhdbmcdlpeaa
set_option linter.unusedSimpArgs false
set_option linter.unusedVariables false
open Go.RowKit Go.Shelf
attribute [local go_sem] field51_0 field51_1

theorem Inv.next {fs : List (List Int)} {rs : List Int} {n0 k : Nat} {p : Nat → Bool} {lost : Bool} (h : Inv fs rs (fun j => k ≤ j) n0 p [] lost) (hp : p k = false) : Inv fs rs (fun j => k + 1 ≤ j) n0 p [] lost := by
  refine ⟨h.rch, h.inb, h.km, fun e j hj => ?_, h.le, h.ls⟩
  rcases h.cl e j hj with h1 | h1 | h1
  · refine .inl ?_
    have : j ≠ k := fun e => by subst e; rw [hp] at hj; cases hj
    show k + 1 ≤ j
    have : k ≤ j := h1
    omega
  · exact .inr (.inl h1)
  · exact .inr (.inr h1)

theorem Inv.open {fs : List (List Int)} {rs : List Int} {n0 k : Nat} {p : Nat → Bool} {lost : Bool} (h : Inv fs rs (fun j => k ≤ j) n0 p [] lost) (hp : p k = true) (hk : k < fs.length) : Inv fs rs (fun j => k + 1 ≤ j) n0 p [k] lost := by
  refine ⟨h.rch, fun j hj => ?_, fun j hj => ?_, fun e j hj => ?_, h.le, h.ls⟩
  · simp at hj; subst hj; exact hk
  · simp at hj; subst hj; exact hp
  · rcases h.cl e j hj with h1 | h1 | h1
    · have h2 : k ≤ j := h1
      by_cases e : j = k
      · exact .inr (.inl (by simp [e]))
      · exact .inl (show k + 1 ≤ j by omega)
    · simp at h1
    · exact .inr (.inr h1)

set_option maxRecDepth 100000 in
set_option maxHeartbeats 2000000 in
theorem ag1_c (hs : List Int) (fs : List (List Int)) (rs : List Int) (n0 k : Nat) (p : Nat → Bool) (N mb pb : Nat) (vw vr : Value) (room : Nat) (lost : Bool) (L A : Int) (w : World)
    (hM : MkA w N mb vw vr hs fs rs room p [] lost) (hA : Arn hs fs rs) (hr1 : 1 ≤ room) (hroom : room ≤ 64) (hk : k < fs.length) (hI : Inv fs rs (fun j => k ≤ j) n0 p [] lost) (hp : w.heap[pb]? = some (.cells #[.pointer (some ⟨mb, 0, none⟩)] 77)) :
    Calls Try.prog 65 #[.int .i64 (tot (fs.take k) : Nat), .agg #[.int .i64 L, .bool (p k), .int .i64 A], .pointer (some ⟨pb, 0, none⟩)] w fun e w' => (e = .returned (.tuple #[]) ∧ ClRes N mb vw vr hs fs rs room (fun j => k + 1 ≤ j) n0 p w') ∧ Below N w w' ∧ KeepT w w' := by
  obtain ⟨i0, hi0, hz0, hz1, hz2⟩ := info_parts Try.info3
  have hlp : pb < w.heap.size := (Array.getElem?_eq_some_iff.1 hp).1
  have hNw : N ≤ w.heap.size := by obtain ⟨vk, h⟩ := hM; have := h.box.lt; have := h.lo; omega
  cases hpk : p k
  · have hb0 : Below w.heap.size w (w.alloc (.cells #[.int .i64 L, .bool false, .int .i64 A] 32)) := (Below.refl _ _).alloc (Nat.le_refl _) _
    have HM := hide (hM.below hb0)
    have HI := hide (hI.next hpk)
    clear hM hI hpk hp
    go_enter Try.func65, Try.ntmps65
    go_wp2
    exact bodyPost_end (v := .tuple #[]) (results_none rfl _ _ _) rfl ⟨⟨rfl, p, lost, unhide HM, unhide HI, fun j h => h⟩, hb0.mono hNw, KeepT.below hb0⟩
  · obtain ⟨W1, hW1⟩ : ∃ W1, w.alloc (.cells #[.int .i64 L, .bool true, .int .i64 A] 32) = W1 := ⟨_, rfl⟩
    have hb0 : Below w.heap.size w W1 := by rw [← hW1]; exact (Below.refl _ _).alloc (Nat.le_refl _) _
    have b1 : W1.cell? ⟨w.heap.size, 1, none⟩ = some (.bool true) := by rw [← hW1]; simp [go_sem]
    have hs1 : w.heap.size < W1.heap.size := by rw [← hW1]; simp
    have HI := hide (hI.open hpk hk)
    obtain ⟨vk, hM⟩ := hM.below hb0
    have hp1 : W1.heap[pb]? = some (.cells #[.pointer (some ⟨mb, 0, none⟩)] 77) := by rw [hb0.block pb hlp]; exact hp
    have hcp := cell_of_box hp1
    have Hp1 := hide hp1
    have q3 := hM.box.c3
    have z3 := hM.box.fr 3
    have hlm := hM.box.lt
    have hmN := hM.lo
    have hko := hM.ko
    obtain ⟨ka, kc, rfl⟩ := ownsRow_slice hko
    have hkl : (plc fs ([] : List Nat)).length = 0 := rfl
    have Hkd := hide hM
    rw [hkl] at q3 hko
    have hkd := hko
    have hlp1 : pb < W1.heap.size := by omega
    have hb0N := hb0.mono hNw
    have Hclimb : Hid (∀ W lost v, Mk W N mb vw vr v (mW hs fs p) rs (plc fs [k]) room lost → Inv fs rs (fun j => k + 1 ≤ j) n0 p [k] lost → Calls Try.prog 57 #[.pointer (some ⟨mb, 0, none⟩)] W fun e w' => (e = .returned (.tuple #[]) ∧ ClRes N mb vw vr hs fs rs room (fun j => k + 1 ≤ j) n0 p w') ∧ Below N W w' ∧ KeepT W w') := fun W lost v h1 h2 =>
      climb_c hs fs rs _ n0 p [k] N mb vw vr room lost W ⟨v, h1⟩ hA hroom (by simpa using hr1) h2
    have Hpl : Hid (plc fs [k] = plc fs [] ++ [((tot (fs.take k) : Nat) : Int)]) := rfl
    have hq : tot (fs.take k) ≤ 256 := by have := place_lt hk; have := hA.n256; omega
    clear hM hI hpk hp hp1 hko hkl hA
    generalize tot (fs.take k) = q at *
    go_enter Try.func65, Try.ntmps65
    go_wp2
    clear hW1
    go_region_law (refine step_append_at rfl _ _ 38 rfl N 3 i0 _ 1 8 Try.underlying38 hi0 hz0 hz1 hz2 rfl (Nat.zero_lt_one) (.slice ka 0 kc) 0 _ rfl (hkd.alloc _).drew ⟨W1.heap.size, 0, none⟩ 1 1 [.int .i64 (q : Int)] rfl rfl (cell_one_at _ _ _ _ rfl) (by simp [Value.oneCell']) (by simp only [maxLen]; omega) (by omega) (by show N ≤ (W1.heap.push _).size; simp; omega) ?_; intro v' w5 hrow hg5 hat; have hpush := (((unhide Hkd).alloc (.cells #[.int .i64 (q : Int)] 3)).below ((Below.refl _ _).drew)).push (x := (q : Int)) hrow hg5 hat; have r3 := hpush.1.c3; have t3 := hpush.1.fr 3; have hlm5 := hpush.1.lt; have Hpush := hide hpush.2; have Hk5 := hide ((((KeepT.refl W1).alloc (.cells #[.int .i64 (q : Int)] 3)).trans (KeepT.below ((Below.refl _ _).drew))).grown (hkd.alloc _).drew hg5 (.inr (.inl rfl))); have Hty := hide hpush.1.ty; clear hpush; have c5 := cell_of_box ((unhide Hk5) pb _ 77 (unhide Hp1) (by decide) (by decide) (by decide)); have hpb5 := (Array.getElem?_eq_some_iff.1 ((unhide Hk5) pb _ 77 (unhide Hp1) (by decide) (by decide) (by decide))).1; obtain ⟨g5, cap5, hv5⟩ := ownsRow_succ hrow; subst hv5)
    all_goals
      have Hc9 := hide (unhide Hclimb _ lost _ (by rw [unhide Hpl]; exact unhide Hpush) (unhide HI))
      have Hb9 : Hid (Below N w (w5.setCell ⟨mb, 3, none⟩ (.slice (some ⟨g5, 0, none⟩) 1 cap5))) := hide (((hb0N.alloc (by omega) (.cells #[.int .i64 (q : Int)] 3)).drew.grown hg5 (by show N ≤ (W1.heap.push _).size; simp; omega) (fun z e => (hkd.lt z e).1)).setCell (p := ⟨mb, 3, none⟩) hmN _)
      have Hk9 := hide (((KeepT.below hb0).trans (unhide Hk5)).setCell (j := 3) (unhide Hty) (.inr (.inr rfl)) (.slice (some ⟨g5, 0, none⟩) 1 cap5))
      clear Hclimb Hpush
      go_wp2_with fail
      refine (unhide Hc9).mono ?_
      rintro e w6 ⟨⟨he, hres⟩, hb6, hk6⟩
      subst he
      have Hres := hide hres
      have Hk6 := hide hk6
      clear hres Hc9 hk6
      go_wp2
      exact bodyPost_end (v := .tuple #[]) (results_none rfl _ _ _) rfl ⟨⟨rfl, unhide Hres⟩, (unhide Hb9).trans hb6, (unhide Hk9).trans (unhide Hk6)⟩

end Go.Proofs.Ytemjhdbmcdlpeaa

/- Walks: again, markAll. -/
namespace Go.Proofs.Ytemjhdbmcdlpeaa
set_option linter.unusedSimpArgs false
set_option linter.unusedVariables false
open Go.RowKit Go.Shelf
attribute [local go_sem] field51_0 field51_1

theorem to_lt {fs : List (List Int)} {l : List Int} {j : Nat} (h : To fs l j) : j < fs.length := by
  obtain ⟨x, _, _, h⟩ := h
  have := (List.getElem?_eq_some_iff.1 h).1
  rw [stF_len] at this
  exact this
theorem rch_lt {fs : List (List Int)} {rs : List Int} {j : Nat} (h : Rch fs rs j) : j < fs.length :=
  h (fun j => j < fs.length) (fun _ h => to_lt h) (fun _ _ _ _ _ h => to_lt h)

/-- What holds while marked objects are gone through once more. -/
def AgI (w0 : World) (N mb pb : Nat) (vw vr : Value) (hs : List Int) (fs : List (List Int)) (rs : List Int) (room n0 : Nat) (p : Nat → Bool) (k : Nat) (W : World) : Prop :=
  ClRes N mb vw vr hs fs rs room (fun j => k ≤ j) n0 p W ∧ W.heap[pb]? = some (.cells #[.pointer (some ⟨mb, 0, none⟩)] 77) ∧ Below N w0 W ∧ KeepT w0 W

theorem agEach (N mb pb cap : Nat) (a : Option Addr) (vr : Value) (hs : List Int) (fs : List (List Int)) (rs : List Int) (room n0 : Nat) (p : Nat → Bool) (w : World) (hA : Arn hs fs rs) (hr1 : 1 ≤ room) (hroom : room ≤ 64)
    (hM : ClRes N mb (.slice a (tot fs) cap) vr hs fs rs room (fun j => 0 ≤ j) n0 p w) (hp : w.heap[pb]? = some (.cells #[.pointer (some ⟨mb, 0, none⟩)] 77)) :
    Calls Try.prog 52 #[.slice a (tot fs : Nat) cap, .func (.func 65) #[] #[.pointer (some ⟨pb, 0, none⟩)]] w fun e w' => e = .returned (.tuple #[]) ∧ AgI w N mb pb (.slice a (tot fs) cap) vr hs fs rs room n0 p fs.length w' := by
  have hF := hA.fit
  refine each56_c _ a cap fs (AgI w N mb pb (.slice a (tot fs) cap) vr hs fs rs room n0 p) w hA.n256 ⟨hM, hp, Below.refl _ _, KeepT.refl _⟩ ?_
  intro k hk W hI
  obtain ⟨⟨p', lost', hMA, hI', hle⟩, hpW, hbW, hkW⟩ := hI
  have hMA' := hMA
  obtain ⟨vk, hMW⟩ := hMA
  obtain ⟨x, hx, hx1, hx2, hx3, hx4⟩ := fit_at hF hk
  have hml := mW_len hF p'
  have hpl := place_lt hk
  obtain ⟨wb, cap', hvw, hwN, hwb, hcap⟩ := hMW.words (by rw [hml]; omega)
  rw [hml] at hvw
  injection hvw with h1 _ h3
  subst h1 h3
  have hg := mW_get hF p' hx
  have hr2 := reh_ok (p' k) x
  refine ⟨wb, 0, reh (p' k) x, rfl, by rw [Nat.zero_add]; exact (hMW.wcell hml.symm hg).1, hr2.2.2.2.2.1, hr2.2.2.2.2.2, hr2.1, by rw [reh_wlen hx1]; exact hx2, fun W' hb' => ?_⟩
  have hp' : W'.heap[pb]? = some (.cells #[.pointer (some ⟨mb, 0, none⟩)] 77) := by rw [hb'.block pb (Array.getElem?_eq_some_iff.1 hpW).1]; exact hpW
  rw [hr2.2.2.1]
  refine (ag1_c hs fs rs n0 k p' N mb pb _ vr room lost' _ _ W' (hMA'.below hb') hA hr1 hroom hk hI' hp').mono ?_
  rintro e W2 ⟨⟨rfl, p2, lost2, h2, h3, h4⟩, hb2, hk2⟩
  refine ⟨rfl, ⟨⟨p2, lost2, h2, h3, fun j hj => h4 j (hle j hj)⟩, hk2 pb _ 77 hp' (by decide) (by decide) (by decide), (hbW.trans (hb'.mono (by omega))).trans hb2, (hkW.trans (KeepT.below hb')).trans hk2⟩, hk2.k51, hb2.size⟩

theorem Inv.again {fs : List (List Int)} {rs : List Int} {E : Nat → Prop} {n0 : Nat} {p : Nat → Bool} {lost : Bool} (h : Inv fs rs E n0 p [] lost) : Inv fs rs (fun j => 0 ≤ j) (unm fs.length p) p [] false :=
  ⟨h.rch, h.inb, h.km, fun _ j _ => .inl (Nat.zero_le j), Nat.le_refl _, fun e => by cases e⟩

theorem Inv.none {fs : List (List Int)} {rs : List Int} {n0 : Nat} {p : Nat → Bool} {lost : Bool} (h : Inv fs rs (fun j => fs.length ≤ j) n0 p [] lost) : Inv fs rs (fun _ => False) n0 p [] lost := by
  refine ⟨h.rch, h.inb, h.km, fun e j hj => ?_, h.le, h.ls⟩
  rcases h.cl e j hj with h1 | h1 | h1
  · have := rch_lt (h.rch j hj)
    have h2 : fs.length ≤ j := h1
    omega
  · exact .inr (.inl h1)
  · exact .inr (.inr h1)

set_option maxRecDepth 100000 in
set_option maxHeartbeats 2000000 in
theorem again_c (hs : List Int) (fs : List (List Int)) (rs : List Int) (n0 : Nat) (p : Nat → Bool) (N mb : Nat) (vw vr : Value) (room : Nat) (w : World)
    (hM : MkA w N mb vw vr hs fs rs room p [] true) (hA : Arn hs fs rs) (hr1 : 1 ≤ room) (hroom : room ≤ 64) (hI : Inv fs rs (fun _ => False) n0 p [] true) :
    Calls Try.prog 58 #[.pointer (some ⟨mb, 0, none⟩)] w fun e w' => (e = .returned (.tuple #[]) ∧ ClRes N mb vw vr hs fs rs room (fun _ => False) (unm fs.length p) p w') ∧ Below N w w' ∧ KeepT w w' := by
  have hml := mW_len hA.fit p
  obtain ⟨W1, hW1⟩ : ∃ W1, w.alloc (.cells #[.pointer (some ⟨mb, 0, none⟩)] 77) = W1 := ⟨_, rfl⟩
  have hb0 : Below w.heap.size w W1 := by rw [← hW1]; exact (Below.refl _ _).alloc (Nat.le_refl _) _
  have hs1 : w.heap.size < W1.heap.size := by rw [← hW1]; simp
  have hp1 : W1.heap[w.heap.size]? = some (.cells #[.pointer (some ⟨mb, 0, none⟩)] 77) := by rw [← hW1]; exact heap_alloc_new _ _
  have hcp := cell_of_box hp1
  obtain ⟨vk, hM1⟩ := hM.below hb0
  have hM2 := hM1.setL false
  have q4 := hM1.box.c4
  have z4 := hM1.box.fr 4
  have q0 := hM1.box.c0
  have hmN := hM1.lo
  have hlm := hM1.box.lt
  have hNw : N ≤ w.heap.size := by obtain ⟨vk, h⟩ := hM; have := h.box.lt; have := h.lo; omega
  obtain ⟨a, cap, hvw⟩ := ownsRow_slice hM1.wo
  rw [hml] at hvw
  subst hvw
  have hp2 : (W1.setCell ⟨mb, 4, none⟩ (.bool false)).heap[w.heap.size]? = some (.cells #[.pointer (some ⟨mb, 0, none⟩)] 77) := by
    refine ((KeepT.refl W1).setCell (j := 4) hM1.box.ty (.inr (.inr rfl)) (.bool false)) _ _ 77 hp1 (by decide) (by decide) (by decide)
  have Hk2 := hide ((KeepT.below hb0).setCell (j := 4) hM1.box.ty (.inr (.inr rfl)) (.bool false))
  have Hb2 := hide ((hb0.mono hNw).setCell (p := ⟨mb, 4, none⟩) hmN (.bool false))
  have Hc := hide (agEach N mb w.heap.size cap a vr hs fs rs room (unm fs.length p) p (W1.setCell ⟨mb, 4, none⟩ (.bool false)) hA hr1 hroom ⟨p, false, ⟨_, hM2⟩, hI.again, fun j h => h⟩ hp2)
  clear hM hM1 hM2 hp1 hp2 hI hA hml
  generalize tot fs = n at *
  go_enter Try.func58, Try.ntmps58
  go_wp2_with fail
  refine (unhide Hc).mono ?_
  rintro e w3 ⟨he, ⟨p', lost', h1, h2, h3⟩, _, hb3, hk3⟩
  subst he
  have Hres : Hid (ClRes N mb (.slice a n cap) vr hs fs rs room (fun _ => False) (unm fs.length p) p w3) := hide ⟨p', lost', h1, h2.none, h3⟩
  have Hk3 := hide hk3
  clear h1 h2 h3 hk3 hW1 Hc
  go_wp2
  exact bodyPost_end (v := .tuple #[]) (results_none rfl _ _ _) rfl ⟨⟨rfl, unhide Hres⟩, (unhide Hb2).trans hb3, (unhide Hk2).trans (unhide Hk3)⟩

end Go.Proofs.Ytemjhdbmcdlpeaa

/- Walks: markAll. -/
namespace Go.Proofs.Ytemjhdbmcdlpeaa
set_option linter.unusedSimpArgs false
set_option linter.unusedVariables false
open Go.RowKit Go.Shelf
attribute [local go_sem] field51_0 field51_1

theorem unm_mono {p q : Nat → Bool} (h : ∀ j, p j = true → q j = true) (n : Nat) : unm n q ≤ unm n p := by
  unfold unm
  rw [← List.countP_eq_length_filter, ← List.countP_eq_length_filter]
  refine List.countP_mono_left fun x _ hx => ?_
  cases hp : p x
  · rfl
  · rw [h x hp] at hx; cases hx

/-- Whether something was lost, as memory tells. -/
def mesL (mb : Nat) (w : World) : Nat := match w.cell? ⟨mb, 4, none⟩ with
  | some (.bool true) => 1
  | _ => 0

theorem mesL_eq {W : World} {N mb : Nat} {vw vr : Value} {hs : List Int} {fs : List (List Int)} {rs : List Int} {room : Nat} {p : Nat → Bool} {K : List Nat} {lost : Bool} (h : MkA W N mb vw vr hs fs rs room p K lost) : mesL mb W = if lost then 1 else 0 := by
  obtain ⟨vk, h⟩ := h
  unfold mesL
  rw [h.box.c4]
  cases lost <;> rfl

/-- What markAll leaves. -/
def MaRes (N mb : Nat) (vw vr : Value) (hs : List Int) (fs : List (List Int)) (rs : List Int) (room : Nat) (W : World) : Prop :=
  ∃ p, MkA W N mb vw vr hs fs rs room p [] false ∧ ∀ j, p j = true ↔ Rch fs rs j

set_option maxRecDepth 100000 in
set_option maxHeartbeats 2000000 in
theorem markAll_c (hs : List Int) (fs : List (List Int)) (rs : List Int) (N mb : Nat) (vw vr : Value) (room : Nat) (w : World)
    (hM : MkA w N mb vw vr hs fs rs room (fun _ => false) [] false) (hA : Arn hs fs rs) (hr1 : 1 ≤ room) (hroom : room ≤ 64) :
    Calls Try.prog 38 #[.pointer (some ⟨mb, 0, none⟩)] w fun e w' => (e = .returned (.tuple #[]) ∧ MaRes N mb vw vr hs fs rs room w') ∧ Below N w w' ∧ KeepT w w' := by
  have HM0 := hide hM
  have HA := hide hA
  have HF := hide hA.fit
  have h256 := hA.n256
  have HI0 : Hid (Inv fs rs (fun _ => False) (fs.length + 1) (fun _ => false) [] false) := hide ⟨fun j h => (by cases h), by simp, by simp, fun _ j h => (by cases h), by unfold unm; have := List.length_filter_le (fun i => !(fun _ => false) i) (List.range fs.length); rw [List.length_range] at this; omega, fun e => by cases e⟩
  clear hM hA
  go_enter Try.func38, Try.ntmps38
  go_wp2
  go_loopw [] (fun wr => ∃ p lost, Hid (MkA wr N mb vw vr hs fs rs room p [] lost) ∧ Hid (Inv fs rs (fun _ => False) (fs.length + 1) p [] lost) ∧ Below N w wr ∧ Hid (KeepT w wr)) (fun wr => mesU vw fs wr)
  case atStart => exact ⟨_, _, HM0, HI0, Below.refl _ _, hide (KeepT.refl _)⟩
  case round =>
    clear HM0 HI0
    obtain ⟨p, lost, HMA, HI, hb, Hkt⟩ := hrel
    have HmU := hide (mesU_eq (unhide HMA) (unhide HF))
    obtain ⟨vk, hM⟩ := unhide HMA
    have q1 := hM.box.c1
    have hlm := hM.box.lt
    have hmN := hM.lo
    have hNw : N ≤ wr.heap.size := by omega
    obtain ⟨ra, rc, hvr, hrd⟩ := hM.rds (unhide HA).n8
    subst hvr
    have Hun := hide (unmarked_c ra rc rs hs fs p N mb vw _ vk rs _ room lost wr hM (unhide HF) h256 hrd (unhide HA).ur (unhide HA).n8 (unhide HA).okr)
    clear hM hrd
    go_wp2_with fail
    refine (unhide Hun).mono ?_
    rintro e w3 ⟨hres, hb3⟩
    have hs3 := hb3.size
    clear Hun
    rcases hres with ⟨j, hj, hpj, hto, he⟩ | ⟨hall, he⟩
    · subst he
      have Htk := hide (take_c hs fs rs p [] N mb vw _ room j lost w3 ((unhide HMA).below hb3) (unhide HF) h256 hroom (by simp) hj)
      have HI2 := hide ((unhide HI).push hj hpj (rch_root hto))
      have Hu := hide (unm_upd hj hpj)
      clear hto hpj HI HMA
      go_wp2_with fail
      refine (unhide Htk).mono ?_
      rintro e w4 ⟨⟨he, hres⟩, hb4, hk4⟩
      subst he
      have h4 : MkA w4 N mb vw (.slice ra rs.length rc) hs fs rs room (upd p j) ([] ++ [j]) lost := by
        rcases hres with ⟨h1, _⟩ | ⟨_, h2⟩
        · simp at h1; omega
        · exact h2
      have Hcl := hide (climb_c hs fs rs _ _ (upd p j) ([] ++ [j]) N mb vw _ room lost w4 h4 (unhide HA) hroom (by simpa using hr1) (unhide HI2))
      have Hk4 := hide ((unhide Hkt).trans ((KeepT.below hb3).trans hk4))
      have hbw4 : Below N w w4 := (hb.trans (hb3.mono hNw)).trans hb4
      clear hres h4 Htk HI2 hk4
      go_wp2_with fail
      refine (unhide Hcl).mono ?_
      rintro e w5 ⟨⟨he, p', lost', h1, h2, h3⟩, hb5, hk5⟩
      subst he
      have H1 := hide h1
      have H2 := hide h2
      have H3 := hide h3
      have Hk5 := hide ((unhide Hk4).trans hk5)
      clear h1 h2 h3 hk5 Hcl
      go_wp2
      go_roundw
      case rel => exact ⟨p', lost', H1, H2, hbw4.trans hb5, Hk5⟩
      case measure =>
        have := unm_mono (unhide H3) fs.length
        have := unhide Hu
        rw [unhide HmU, mesU_eq (unhide H1) (unhide HF)]
        omega
    · subst he
      have Hall := hide hall
      have HM3 := hide ((unhide HMA).below hb3)
      have Hk3 := hide ((unhide Hkt).trans (KeepT.below hb3))
      have hbw3 : Below N w w3 := hb.trans (hb3.mono hNw)
      clear hall HMA HmU Hkt q1 hlm hNw hb hb3 hs3
      go_wp2
      go_loopw [] (fun wr => ∃ p lost n0, Hid (MkA wr N mb vw (.slice ra rs.length rc) hs fs rs room p [] lost) ∧ Hid (Inv fs rs (fun _ => False) n0 p [] lost) ∧ Hid (∀ j, To fs rs j → p j = true) ∧ Below N w wr ∧ Hid (KeepT w wr)) (fun wr => 2 * mesU vw fs wr + mesL mb wr)
      case atStart => exact ⟨p, lost, _, HM3, HI, Hall, hbw3, Hk3⟩
      case round =>
        clear HM3 HI Hall hbw3 Hk3
        obtain ⟨p, lost, n0, HMA, HI, Hall, hb, Hkt⟩ := hrel
        have HmU := hide (mesU_eq (unhide HMA) (unhide HF))
        have HmL := hide (mesL_eq (unhide HMA))
        have q4 : wr.cell? ⟨mb, 4, none⟩ = some (.bool lost) := by obtain ⟨vk, hM⟩ := unhide HMA; exact hM.box.c4
        have hlm : mb < wr.heap.size := by obtain ⟨vk, hM⟩ := unhide HMA; exact hM.box.lt
        cases lost
        · have HR : Hid (MaRes N mb vw (.slice ra rs.length rc) hs fs rs room wr) := hide ⟨p, unhide HMA, marked_all (unhide HI).rch (unhide Hall) (fun i hi => by
            rcases (unhide HI).cl rfl i hi with h | h | h
            · cases h
            · cases h
            · exact h)⟩
          go_wp2
          exact bodyPost_end (v := .tuple #[]) (results_none rfl _ _ _) rfl ⟨⟨rfl, unhide HR⟩, hb, unhide Hkt⟩
        · have Hag := hide (again_c hs fs rs n0 p N mb vw _ room wr (unhide HMA) (unhide HA) hr1 hroom (unhide HI))
          go_wp2_with fail
          refine (unhide Hag).mono ?_
          rintro e w5 ⟨⟨he, p', lost', h1, h2, h3⟩, hb5, hk5⟩
          subst he
          have H1 := hide h1
          have H2 := hide h2
          have H3 := hide h3
          have Hk5 := hide ((unhide Hkt).trans hk5)
          clear h1 h2 h3 hk5 Hag
          go_wp2
          go_roundw
          case rel => exact ⟨p', lost', _, H1, H2, hide (fun j hj => unhide H3 j (unhide Hall j hj)), hb.trans hb5, Hk5⟩
          case measure =>
            have hm := unm_mono (unhide H3) fs.length
            rw [unhide HmU, unhide HmL, mesU_eq (unhide H1) (unhide HF), mesL_eq (unhide H1)]
            cases lost'
            · simp; omega
            · have := (unhide H2).ls rfl
              simp; omega

end Go.Proofs.Ytemjhdbmcdlpeaa

/- Walks: newMarker. -/
namespace Go.Proofs.Ytemjhdbmcdlpeaa
set_option linter.unusedSimpArgs false
set_option linter.unusedVariables false
open Go.RowKit Go.Shelf
attribute [local go_sem] field51_0 field51_1

theorem run_append_words (w : World) (base : Nat) (ty : TypeId) (ar : Option Addr) (l : List Int) (c : Nat) (hW : Wds w.heap.size w ar l) (hl : l.length ≤ 256) (hbase : base ≤ w.heap.size) :
    ∃ v' w', (Builtin.append_ #[22, 22] ty #[.slice none 0 0, .slice ar l.length c]).run Try.prog w = .ok v' w' ∧ w'.ownsRow base 56 1 v' l.length (wordsV l) ∧ w.grownBy w' none ∧ (v'.ownBlock = none ∨ v'.ownBlock = some w.heap.size) := by
  obtain ⟨i0, hi0, hz0, hz1, hz2⟩ := info_parts Try.info56m
  cases ar with
  | none =>
    have h0 : l = [] := by
      cases l with
      | nil => rfl
      | cons x l => obtain ⟨b, off, e, _⟩ := hW.2 (by simp); cases e
    subst h0
    refine ⟨.slice none 0 0, w, ?_, World.ownsRow_nil _ _ _ _, ⟨rfl, rfl, rfl, Nat.le_refl _, fun _ _ _ => rfl⟩, .inl rfl⟩
    simp [Builtin.append_, run_underlying Try.underlying22, sizeOf, typeInfo, hi0, Builtin.lenOf, Builtin.firstCells]
  | some ad =>
    have hn : ∀ j u, (wordsV l)[j]? = some u → w.cell? (ad.add j) = some u := by
      intro j u hj
      obtain ⟨b, off, e, _, hc⟩ := hW.2 (by rintro rfl; simp [wordsV] at hj)
      have e' := Option.some.inj e
      subst e'
      rw [Go.WideShapes.add_plain]
      simp only [wordsV, List.getElem?_map, Option.map_eq_some_iff] at hj
      obtain ⟨x, hx, rfl⟩ := hj
      exact hc j x hx
    obtain ⟨v', w', h1, h2, h3, _, h5⟩ := run_append_own_at (P := Try.prog) w base 22 ty 56 i0 (.int .u64 0) 1 8 Try.underlying22 hi0 hz0 hz1 hz2 rfl (by decide) (.slice none 0 0) 0 [] (World.ownsRow_nil _ _ _ _) ad l.length c (wordsV l) (by simp [wordsV]) hn (by intro u hu; simp only [wordsV, List.mem_map] at hu; obtain ⟨x, _, rfl⟩ := hu; rfl) (by simp only [maxLen]; omega) (by omega) hbase
    rw [Nat.zero_add, List.nil_append] at h2
    exact ⟨v', w', h1, h2, h3, h5⟩

theorem step_append_words {ops : Array Oper} {o : Oper} {a : Act} {w : World} {K : Act → World → Prop} {Q : Exit → Act → World → Prop} {E : Prop} (hgd : o.guard = none) (s x : Operand)
    (ho : o.op = .call { callee := .builtin .append, args := #[s, x], argTypes := #[22, 22] }) (base : Nat) (ar : Option Addr) (l : List Int) (c : Nat) (hs : a.eval s = .slice none 0 0) (hx : a.eval x = .slice ar l.length c) (hW : Wds w.heap.size w ar l) (hl : l.length ≤ 256) (hbase : base ≤ w.heap.size)
    (h : ∀ v' w', w'.ownsRow base 56 1 v' l.length (wordsV l) → w.grownBy w' none → (v'.ownBlock = none ∨ v'.ownBlock = some w.heap.size) → K (a.put o.dst v') w') :
    if Region.wanted o (yielded ops a.tmps) = true then Oper.wp Try.prog o a w K Q else E := by
  have hw : Region.wanted o (yielded ops a.tmps) = true := by simp [Region.wanted, hgd]
  rw [if_pos hw]
  obtain ⟨v', w', hr, h2, h3, h5⟩ := run_append_words w base o.type ar l c hW hl hbase
  unfold Oper.wp execOp
  simp only [ho, resolve, invoke, builtin, Sem.run_bind, Sem.run_pure, Result.andThen_ok, List.map_toArray, List.map_cons, List.map_nil, hs, hx, hr]
  exact h v' w' h2 h3 h5

theorem grown_own {W w1 : World} {base : Nat} {e : TypeId} {size : Nat} {v : Value} {n : Nat} {xs : List Value} (h : W.ownsRow base e size v n xs) (hg : W.grownBy w1 none) : w1.ownsRow base e size v n xs := h.kept hg (by cases hv : v.ownBlock <;> simp)

/-- Behind the first append and its store. -/
theorem Mk.first {W w1 : World} {N mb : Nat} {vr vk v' : Value} {ws rs K : List Int} {room : Nat} {lost : Bool} (h : Mk W N mb (.slice none 0 0) vr vk [] rs K room lost) (hrow : w1.ownsRow N 56 1 v' ws.length (wordsV ws)) (hg : W.grownBy w1 none)
    (hat : v'.ownBlock = none ∨ v'.ownBlock = some W.heap.size) : MBox w1 mb (.slice none 0 0) vr room vk lost ∧ Mk (w1.setCell ⟨mb, 0, none⟩ v') N mb v' vr vk ws rs K room lost := by
  have hbox : MBox w1 mb (.slice none 0 0) vr room vk lost := h.box.kept (hg.block _ h.box.lt (by simp))
  have new : ∀ {u : Value}, (∀ k, u.ownBlock = some k → k < W.heap.size) → ∀ k, v'.ownBlock = some k → u.ownBlock ≠ some k := by
    intro u h1 k hk e
    rcases hat with h | h
    · rw [h] at hk; cases hk
    · rw [h] at hk; injection hk with hk; have := h1 k e; omega
  have hg2 := grown_set w1 mb 0 v'
  have ne : v'.ownBlock ≠ some mb := fun e => by
    rcases hat with h1 | h1
    · rw [h1] at e; cases e
    · rw [h1] at e; injection e with e; have := h.box.lt; omega
  exact ⟨hbox, hbox.set0 v', h.lo, hrow.kept hg2 (or_ne ne), (grown_own h.ro hg).kept hg2 (or_ne h.ar), (grown_own h.ko hg).kept hg2 (or_ne h.ak), ne, h.ar, h.ak, new (fun k hk => (h.ro.lt k hk).2), new (fun k hk => (h.ko.lt k hk).2), h.rk⟩

/-- Behind the second append and its store. -/
theorem Mk.second {W w1 : World} {N mb : Nat} {vw vk v' : Value} {ws rs K : List Int} {room : Nat} {lost : Bool} (h : Mk W N mb vw (.slice none 0 0) vk ws [] K room lost) (hrow : w1.ownsRow N 56 1 v' rs.length (wordsV rs)) (hg : W.grownBy w1 none)
    (hat : v'.ownBlock = none ∨ v'.ownBlock = some W.heap.size) : MBox w1 mb vw (.slice none 0 0) room vk lost ∧ Mk (w1.setCell ⟨mb, 1, none⟩ v') N mb vw v' vk ws rs K room lost := by
  have hbox : MBox w1 mb vw (.slice none 0 0) room vk lost := h.box.kept (hg.block _ h.box.lt (by simp))
  have new : ∀ {u : Value}, (∀ k, u.ownBlock = some k → k < W.heap.size) → ∀ k, v'.ownBlock = some k → u.ownBlock ≠ some k := by
    intro u h1 k hk e
    rcases hat with h | h
    · rw [h] at hk; cases hk
    · rw [h] at hk; injection hk with hk; have := h1 k e; omega
  have hg2 := grown_set w1 mb 1 v'
  have ne : v'.ownBlock ≠ some mb := fun e => by
    rcases hat with h1 | h1
    · rw [h1] at e; cases e
    · rw [h1] at e; injection e with e; have := h.box.lt; omega
  exact ⟨hbox, hbox.set1 v', h.lo, (grown_own h.wo hg).kept hg2 (or_ne h.aw), hrow.kept hg2 (or_ne ne), (grown_own h.ko hg).kept hg2 (or_ne h.ak), h.aw, ne, h.ak, fun k hk e => new (fun k hk => (h.wo.lt k hk).2) k e hk, h.wk, new (fun k hk => (h.ko.lt k hk).2)⟩

theorem keepT_grown {a W W' : World} (h : KeepT a W) (hg : W.grownBy W' none) : KeepT a W' := h.trans fun k cs t hk _ _ _ => by rw [hg.block k (Array.getElem?_eq_some_iff.1 hk).1 (by simp)]; exact hk

/-- A new marker. -/
theorem mk_start {w1 : World} {N kb room : Nat} (h : w1.ownsRow N 3 1 (.slice (some ⟨kb, 0, none⟩) 0 room) 0 []) (hN : N ≤ w1.heap.size) :
    Mk ((w1.alloc (.cells #[.slice none 0 0, .slice none 0 0, .int .i64 (room : Nat), .slice (some ⟨kb, 0, none⟩) 0 room, .bool false] 80)).alloc (.cells #[.pointer (some ⟨w1.heap.size, 0, none⟩)] 77)) N w1.heap.size (.slice none 0 0) (.slice none 0 0) (.slice (some ⟨kb, 0, none⟩) 0 room) [] [] [] room false := by
  have hk := (h.lt kb rfl).2
  refine ⟨⟨by simp [go_sem], by simp [go_sem], by simp [go_sem], by simp [go_sem], by simp [go_sem], fun j => ?_, ?_⟩, hN, World.ownsRow_nil _ _ _ _, World.ownsRow_nil _ _ _ _, (h.alloc _).alloc _, by simp [Value.ownBlock], by simp [Value.ownBlock], by simp [Value.ownBlock]; omega, by simp [Value.ownBlock], by simp [Value.ownBlock], by simp [Value.ownBlock]⟩
  · simp [go_sem]
  · refine ⟨#[.slice none 0 0, .slice none 0 0, .int .i64 (room : Nat), .slice (some ⟨kb, 0, none⟩) 0 room, .bool false], ?_⟩
    rw [Below.heap_alloc _ _ _ (by simp)]
    exact heap_alloc_new _ _

end Go.Proofs.Ytemjhdbmcdlpeaa

/- Walks: newMarker. -/
namespace Go.Proofs.Ytemjhdbmcdlpeaa
set_option linter.unusedSimpArgs false
set_option linter.unusedVariables false
open Go.RowKit Go.Shelf
attribute [local go_sem] field51_0 field51_1

def NmRes (N : Nat) (hs : List Int) (fs : List (List Int)) (rs : List Int) (room : Nat) (e : Ending) (W : World) : Prop :=
  ∃ mb vw vr, e = .returned (.pointer (some ⟨mb, 0, none⟩)) ∧ MkA W N mb vw vr hs fs rs room (fun _ => false) [] false

set_option maxRecDepth 100000 in
set_option maxHeartbeats 2000000 in
theorem newMarker_c (aw ar : Option Addr) (cw cr : Nat) (hs : List Int) (fs : List (List Int)) (rs : List Int) (room : Nat) (w : World) (hA : Arn hs fs rs) (hr1 : 1 ≤ room) (hroom : room ≤ 64)
    (hW : Wds w.heap.size w aw (joinW hs fs)) (hR : Wds w.heap.size w ar rs) :
    Calls Try.prog 37 #[.agg #[.slice aw (tot fs : Nat) cw, .slice ar rs.length cr], .int .i64 (room : Nat)] w fun e w' => NmRes w.heap.size hs fs rs room e w' ∧ Below w.heap.size w w' := by
  obtain ⟨i0, hi0, hz0, hz1, hz2⟩ := info_parts Try.info3
  have hF := hA.fit
  have h256 := hA.n256
  have h8 := hA.n8
  have hjl := joinW_len hs fs hF.len
  have HF := hide hF
  have Hjl := hide hjl
  obtain ⟨W0, hW0⟩ : ∃ W0, w.alloc (.cells #[.slice aw (tot fs : Nat) cw, .slice ar rs.length cr] 24) = W0 := ⟨_, rfl⟩
  have hb0 : Below w.heap.size w W0 := by rw [← hW0]; exact (Below.refl _ _).alloc (Nat.le_refl _) _
  have hs0 : w.heap.size < W0.heap.size := by rw [← hW0]; simp
  have hp0 : W0.heap[w.heap.size]? = some (.cells #[.slice aw (tot fs : Nat) cw, .slice ar rs.length cr] 24) := by rw [← hW0]; exact heap_alloc_new _ _
  have Hp0 := hide hp0
  have HW := hide (hW.below hb0)
  have HR := hide (hR.below hb0)
  clear hW hR hA hjl hF hp0
  go_enter Try.func37, Try.ntmps37
  go_upto_region 2 with (at_make; go_must (refine wpList_make_own _ rfl _ _ 38 rfl w.heap.size 3 i0 _ 1 Try.underlying38 hi0 hz0 hz1 .i64 .i64 _ room rfl rfl rfl (by rw [hz2]; omega) (by simp only [maxLen]; omega) (by omega) ?_); go_must (intro w1 hown hg1))
  have hs1 := hg1.size
  have hM2 := mk_start hown (N := w.heap.size) (by omega)
  obtain ⟨W2, hW2⟩ : ∃ W2, ((w1.alloc (.cells #[.slice none 0 0, .slice none 0 0, .int .i64 (room : Nat), .slice (some ⟨W0.heap.size, 0, none⟩) 0 room, .bool false] 80)).alloc (.cells #[.pointer (some ⟨w1.heap.size, 0, none⟩)] 77)) = W2 := ⟨_, rfl⟩
  rw [hW2] at hM2
  have hp2 : W2.heap[w1.heap.size + 1]? = some (.cells #[.pointer (some ⟨w1.heap.size, 0, none⟩)] 77) := by
    have := heap_alloc_new (w1.alloc (.cells #[.slice none 0 0, .slice none 0 0, .int .i64 (room : Nat), .slice (some ⟨W0.heap.size, 0, none⟩) 0 room, .bool false] 80)) (.cells #[.pointer (some ⟨w1.heap.size, 0, none⟩)] 77)
    rw [hW2] at this
    simpa using this
  have hb2 : Below W0.heap.size W0 W2 := by rw [← hW2]; exact ((((Below.refl _ W0).grown hg1 (Nat.le_refl _) (fun k e => by cases e)).alloc hs1 _).alloc (by simp; omega) _)
  have hs2 := hb2.size
  rw [hW2]
  have hmW : W0.heap.size ≤ w1.heap.size := hs1
  have hlp2 := (Array.getElem?_eq_some_iff.1 hp2).1
  clear hown hg1 hW2 hW0 hs1
  generalize w1.heap.size = mb at *
  have hcp := cell_of_box hp2
  have q0 := hM2.box.c0
  have z0 := hM2.box.fr 0
  have hlm := hM2.box.lt
  have c24 : ∀ (wx : World), Below W0.heap.size W0 wx → wx.cell? ⟨w.heap.size, 0, none⟩ = some (.slice aw (tot fs : Nat) cw) ∧ wx.cell? ⟨w.heap.size, 1, none⟩ = some (.slice ar rs.length cr) := fun wx hb => by
    have h := (hb.block w.heap.size hs0).trans (unhide Hp0)
    exact ⟨by rw [cell_of_row wx w.heap.size 0 _ 24 (0, 0) h]; rfl, by rw [cell_of_row wx w.heap.size 1 _ 24 (0, 0) h]; rfl⟩
  have a0 := (c24 W2 hb2).1
  have hla : w.heap.size < W2.heap.size := by omega
  have HM2 := hide hM2
  have Hp2 := hide hp2
  have HWd : Hid (∀ wx, Below W0.heap.size W0 wx → Wds wx.heap.size wx aw (joinW hs fs) ∧ Wds wx.heap.size wx ar rs) := fun wx hb => ⟨((unhide HW).below (hb.mono (by omega))).mono (by have := hb.size; omega), ((unhide HR).below (hb.mono (by omega))).mono (by have := hb.size; omega)⟩
  have Hc24 := hide c24
  clear hM2 hp2 c24
  go_cut [] from 11 to 22 (fun wx => ∃ vw, Hid (Mk wx w.heap.size mb vw (.slice none 0 0) (.slice (some ⟨W0.heap.size, 0, none⟩) 0 room) (joinW hs fs) [] [] room false) ∧ Hid (KeepT W2 wx) ∧ Below W0.heap.size W0 wx)
  case first =>
    go_region_law (refine step_append_words rfl _ _ rfl w.heap.size aw (joinW hs fs) cw rfl (by rw [unhide Hjl]; rfl) (unhide HWd _ hb2.drew).1 (by rw [unhide Hjl]; exact h256) (by show w.heap.size ≤ W2.heap.size; omega) ?_; intro v' w5 hrow hg5 hat; have hfst := ((unhide HM2).below ((Below.refl _ _).drew)).first hrow hg5 hat; have r0 := hfst.1.c0; have t0 := hfst.1.fr 0; have hlm5 := hfst.1.lt; have Hfst := hide hfst.2; have Hty := hide hfst.1.ty; have Hk5 := hide (keepT_grown (KeepT.below ((Below.refl _ W2).drew)) hg5); have hb5 := hb2.drew.grown hg5 hs2 (fun k e => by cases e); have c5 := cell_of_box ((unhide Hk5) (mb + 1) _ 77 (unhide Hp2) (by decide) (by decide) (by decide)); clear hfst; obtain ⟨va, vc, hv5⟩ := ownsRow_slice hrow; subst hv5)
    all_goals
      go_wp2_with fail
      go_meet
      case rel => exact ⟨_, Hfst, hide ((unhide Hk5).setCell (unhide Hty) (.inr (.inr rfl)) _), hb5.setCell (p := ⟨mb, 0, none⟩) (by show W0.heap.size ≤ mb; omega) _⟩
  case rest =>
  obtain ⟨vw, HM3, Hk3, hb3⟩ := hcut
  clear q0 z0 hcp hlm hla a0 HM2 hlp2
  have hs3 := hb3.size
  have Hp3 := hide ((unhide Hk3) (mb + 1) _ 77 (unhide Hp2) (by decide) (by decide) (by decide))
  have hcp := cell_of_box (unhide Hp3)
  have q1 := (unhide HM3).box.c1
  have z1 := (unhide HM3).box.fr 1
  have hlm := (unhide HM3).box.lt
  have a1 := (unhide Hc24 wc hb3).2
  have hla : w.heap.size < wc.heap.size := by omega
  have hlp : mb + 1 < wc.heap.size := (Array.getElem?_eq_some_iff.1 (unhide Hp3)).1
  clear hb2 hs2 Hp2 Hk3
  go_upto_region 3 with fail
  go_cut [] from 23 to 34 (fun wx => ∃ vr, Hid (Mk wx w.heap.size mb vw vr (.slice (some ⟨W0.heap.size, 0, none⟩) 0 room) (joinW hs fs) rs [] room false) ∧ Hid (wx.heap[mb + 1]? = some (.cells #[.pointer (some ⟨mb, 0, none⟩)] 77)) ∧ Below W0.heap.size W0 wx)
  case first =>
    go_region_law (refine step_append_words rfl _ _ rfl w.heap.size ar rs cr rfl rfl (unhide HWd _ hb3.drew).2 (by omega) (by show w.heap.size ≤ wc.heap.size; omega) ?_; intro v' w5 hrow hg5 hat; have hsnd := ((unhide HM3).below ((Below.refl _ _).drew)).second hrow hg5 hat; have r0 := hsnd.1.c1; have t0 := hsnd.1.fr 1; have hlm5 := hsnd.1.lt; have Hsnd := hide hsnd.2; have Hty := hide hsnd.1.ty; have Hk5 := hide (keepT_grown (KeepT.below ((Below.refl _ wc).drew)) hg5); have hb5 := hb3.drew.grown hg5 hs3 (fun k e => by cases e); have c5 := cell_of_box ((unhide Hk5) (mb + 1) _ 77 (unhide Hp3) (by decide) (by decide) (by decide)); clear hsnd; obtain ⟨va, vc, hv5⟩ := ownsRow_slice hrow; subst hv5)
    all_goals
      go_wp2_with fail
      go_meet
      case rel => exact ⟨_, Hsnd, hide (((unhide Hk5).setCell (unhide Hty) (.inr (.inr rfl)) _) (mb + 1) _ 77 (unhide Hp3) (by decide) (by decide) (by decide)), hb5.setCell (p := ⟨mb, 1, none⟩) (by show W0.heap.size ≤ mb; omega) _⟩
  case rest =>
  obtain ⟨vr, HM4, Hp4, hb4⟩ := hcut
  clear q1 z1 hcp hlm hla a1 HM3 Hp3 hs3 hb3 hlp Hc24 HWd
  have hcp := cell_of_box (unhide Hp4)
  have hlp : mb + 1 < wc.heap.size := (Array.getElem?_eq_some_iff.1 (unhide Hp4)).1
  have hlm := (unhide HM4).box.lt
  obtain ⟨a, cap, hvw⟩ := ownsRow_slice (unhide HM4).wo
  rw [unhide Hjl] at hvw
  subst hvw
  have q0 := (unhide HM4).box.c0
  have Hc := hide (nmEach w.heap.size mb (mb + 1) cap a vr _ hs fs rs room wc (unhide HF) h256 (unhide HM4) (unhide Hp4))
  have Hfin : Hid (fW hs fs fs.length = mW hs fs (fun _ => false)) := by
    show joinW _ _ = joinW _ _
    rw [mkF_all _ _ (by have := (unhide HF).len; omega)]
  have hbw : Below w.heap.size w wc := hb0.trans (hb4.mono (by omega))
  clear HM4 Hp4 hb0 hb4
  go_wp2_with fail
  refine (unhide Hc).mono ?_
  rintro e w6 ⟨he, hM6, hp6, hb6, hk6⟩
  subst he
  have hc6 := cell_of_box hp6
  have hl6 : mb + 1 < w6.heap.size := (Array.getElem?_eq_some_iff.1 hp6).1
  have HM6 := hide hM6
  clear hM6 hp6 hk6 Hc
  go_wp2
  go_ret
  have h9 := unhide HM6
  rw [unhide Hfin] at h9
  exact ⟨⟨mb, _, vr, rfl, ⟨_, h9⟩⟩, hbw.trans hb6⟩

end Go.Proofs.Ytemjhdbmcdlpeaa

/- Walks: Mark. -/
namespace Go.Proofs.Ytemjhdbmcdlpeaa
set_option linter.unusedSimpArgs false
set_option linter.unusedVariables false
open Go.RowKit Go.Shelf

/-- What Mark tells of an arena that may be, and a room that may be. -/
def MrkOk (ws rs : List Int) (e : Ending) (W : World) : Prop :=
  ∃ hs fs p a c a' c', Arn hs fs rs ∧ ws = joinW hs fs ∧ (∀ j, p j = true ↔ Rch fs rs j) ∧ e = .returned (.tuple #[.agg #[.slice a (mW hs fs p).length c, .slice a' rs.length c'], .int .i64 0]) ∧ Wds W.heap.size W a (mW hs fs p) ∧ (mW hs fs p).length ≤ c ∧ Wds W.heap.size W a' rs

/-- What Mark tells. -/
def MrkRes (ws rs : List Int) (room : Int) (e : Ending) (W : World) : Prop :=
  (arenaE ws rs ≠ 0 ∧ e = .returned (.tuple #[.agg #[.slice none 0 0, .slice none 0 0], .int .i64 (arenaE ws rs)])) ∨
  (arenaE ws rs = 0 ∧ (room < 1 ∨ 64 < room) ∧ e = .returned (.tuple #[.agg #[.slice none 0 0, .slice none 0 0], .int .i64 3])) ∨
  (arenaE ws rs = 0 ∧ 1 ≤ room ∧ room ≤ 64 ∧ MrkOk ws rs e W)

theorem row_wds {w : World} {N mb : Nat} {l : List Int} {v u : Value} {off : Nat} (h : w.ownsRow N 56 1 v l.length (wordsV l)) (hl : l.length ≤ 256) (hb : mb < N) : ∃ a c, v = .slice a l.length c ∧ Wds w.heap.size w a l ∧ l.length ≤ c ∧ Hid (∀ b o, a = some ⟨b, o, none⟩ → N ≤ b) := by
  obtain ⟨a, c, hv, hW, hn⟩ := words_of_owns h rfl (by omega)
  refine ⟨a, c, hv, hW, ?_, hn⟩
  rcases h.2 with ⟨_, h0⟩ | ⟨g, cap', cur, hv', h1, h2, h3, h4, h5, h6⟩
  · omega
  · rw [hv] at hv'; injection hv' with _ _ e; omega

theorem wds_set {B N : Nat} {w : World} {a : Option Addr} {l : List Int} (h : Wds B w a l) (hn : Hid (∀ b o, a = some ⟨b, o, none⟩ → N ≤ b)) {p : Addr} (hp : p.block < N) (u : Value) : Wds B (w.setCell p u) a l := by
  refine ⟨h.1, fun hne => ?_⟩
  obtain ⟨b, off, rfl, hB, hc⟩ := h.2 hne
  have := unhide hn b off rfl
  refine ⟨b, off, rfl, hB, fun k v hk => ?_⟩
  rw [World.cell?_of_block (a := ⟨b, off + k, none⟩) (Below.heap_setCell _ _ _ _ (by show b ≠ _; omega))]
  exact hc k v hk

set_option maxRecDepth 100000 in
set_option maxHeartbeats 2000000 in
theorem mark_c (aw ar : Option Addr) (cw cr : Nat) (ws rs : List Int) (room : Int) (B : Nat) (w : World) (hW : Wds B w aw ws) (hR : Wds B w ar rs) (hUW : U64 ws) (hUR : U64 rs) (hB : B ≤ w.heap.size) (hcap : ws.length ≤ cw) :
    Calls Try.prog 19 #[.agg #[.slice aw ws.length cw, .slice ar rs.length cr], .int .i64 room] w fun e w' => MrkRes ws rs room e w' ∧ Below w.heap.size w w' := by
  obtain ⟨W1, hW1⟩ : ∃ W1, (w.alloc (.cells #[.slice aw ws.length cw, .slice ar rs.length cr] 24)).alloc (.cells #[.slice none 0 0, .slice none 0 0] 24) = W1 := ⟨_, rfl⟩
  have hb1 : Below w.heap.size w W1 := by rw [← hW1]; exact ((Below.refl w.heap.size w).alloc (Nat.le_refl _) _).alloc (by simp) _
  have hs1 : w.heap.size + 1 < W1.heap.size := by rw [← hW1]; simp
  have g0 : W1.cell? ⟨w.heap.size, 0, none⟩ = some (.slice aw ws.length cw) := by rw [← hW1]; simp [go_sem]
  have g1 : W1.cell? ⟨w.heap.size, 1, none⟩ = some (.slice ar rs.length cr) := by rw [← hW1]; simp [go_sem]
  have r0 : W1.cell? ⟨w.heap.size + 1, 0, none⟩ = some (.slice none 0 0) := by rw [← hW1]; simp [go_sem]
  have r1 : W1.cell? ⟨w.heap.size + 1, 1, none⟩ = some (.slice none 0 0) := by rw [← hW1]; simp [go_sem]
  have z0 : W1.frozen? ⟨w.heap.size + 1, 0, none⟩ = false := by rw [← hW1]; simp [go_sem]
  have z1 : W1.frozen? ⟨w.heap.size + 1, 1, none⟩ = false := by rw [← hW1]; simp [go_sem]
  have Hc1 := hide (acheck_c aw ar cw cr ws rs B W1 (hW.below (hb1.mono hB)) (hR.below (hb1.mono hB)) hUW hUR (by omega) hcap)
  go_enter Try.func19, Try.ntmps19
  go_wp2_with fail
  refine (unhide Hc1).mono ?_
  rintro e w2 ⟨rfl, hb2⟩
  clear hW1 Hc1
  have hs2 := hb2.size
  have hbw2 : Below w.heap.size w w2 := hb1.trans (hb2.mono (by omega))
  replace g0 := (hb2.cell (p := ⟨w.heap.size, 0, none⟩) (by simp; omega)).trans g0
  replace g1 := (hb2.cell (p := ⟨w.heap.size, 1, none⟩) (by simp; omega)).trans g1
  replace r0 := (hb2.cell (p := ⟨w.heap.size + 1, 0, none⟩) hs1).trans r0
  replace r1 := (hb2.cell (p := ⟨w.heap.size + 1, 1, none⟩) hs1).trans r1
  replace z0 := (hb2.frozen (p := ⟨w.heap.size + 1, 0, none⟩) hs1).trans z0
  replace z1 := (hb2.frozen (p := ⟨w.heap.size + 1, 1, none⟩) hs1).trans z1
  have hl2 : w.heap.size + 1 < w2.heap.size := by omega
  have hl2' : w.heap.size < w2.heap.size := by omega
  clear hb1 hb2
  by_cases hE : arenaE ws rs = 0
  · by_cases hr : room < 1 ∨ 64 < room
    · have HE := hide hE
      have Hr := hide hr
      rw [hE]
      have hfin : Hid (∀ W, Below w.heap.size w W → MrkRes ws rs room (.returned (.tuple #[.agg #[.slice none 0 0, .slice none 0 0], .int .i64 3])) W ∧ Below w.heap.size w W) := fun W h => ⟨.inr (.inl ⟨unhide HE, unhide Hr, rfl⟩), h⟩
      clear hE
      rcases hr with hr | hr
      · have d1 : decide (room < 1) = true := by simpa using hr
        go_wp2
        refine bodyPost_ret (v := .tuple #[.agg #[.slice none 0 0, .slice none 0 0], .int .i64 3]) (by simp [results, Try.results19, go_sem, r0, r1]) rfl (unhide hfin _ ((hbw2.setCell (p := ⟨w.heap.size + 1, 0, none⟩) (by simp) _).setCell (p := ⟨w.heap.size + 1, 1, none⟩) (by simp) _))
      · have d1 : decide (room < 1) = false := by simp; omega
        have d2 : decide (room > 64) = true := by simp; omega
        have d3 : decide (64 < room) = true := by simp; omega
        go_wp2
        refine bodyPost_ret (v := .tuple #[.agg #[.slice none 0 0, .slice none 0 0], .int .i64 3]) (by simp [results, Try.results19, go_sem, r0, r1]) rfl (unhide hfin _ ((hbw2.setCell (p := ⟨w.heap.size + 1, 0, none⟩) (by simp) _).setCell (p := ⟨w.heap.size + 1, 1, none⟩) (by simp) _))
    · obtain ⟨rN, rfl⟩ := Int.eq_ofNat_of_zero_le (show 0 ≤ room by omega)
      have hr1 : 1 ≤ rN := by omega
      have hr2 : rN ≤ 64 := by omega
      obtain ⟨hs, fs, hA, hws⟩ := arn_of hUW hUR hE
      have hjl : tot fs = ws.length := by rw [hws, joinW_len _ _ hA.fit.len]
      have HA := hide hA
      have Hws := hide hws
      have HE := hide hE
      rw [hE]
      have Hc2 : Hid (Calls Try.prog 37 #[.agg #[.slice aw ws.length cw, .slice ar rs.length cr], .int .i64 (rN : Nat)] w2 fun e w' => NmRes w2.heap.size hs fs rs rN e w' ∧ Below w2.heap.size w2 w') := by
        have := newMarker_c aw ar cw cr hs fs rs rN w2 hA hr1 hr2 (by rw [← hws]; exact (hW.below (hbw2.mono hB)).mono (by omega)) ((hR.below (hbw2.mono hB)).mono (by omega))
        rw [hjl] at this
        exact this
      have d1 : decide ((rN : Int) < 1) = false := by simp; omega
      have d2 : decide ((rN : Int) > 64) = false := by simp; omega
      have d3 : decide (64 < (rN : Int)) = false := by simp; omega
      clear hE hr hA hws hjl
      go_wp2_with fail
      refine (unhide Hc2).mono ?_
      rintro e w3 ⟨⟨mb, vw, vr, he, hM3⟩, hb3⟩
      subst he
      have Hc3 := hide (markAll_c hs fs rs w2.heap.size mb vw vr rN w3 hM3 (unhide HA) hr1 hr2)
      clear hM3 Hc2
      go_wp2_with fail
      refine (unhide Hc3).mono ?_
      rintro e w4 ⟨⟨he, p, ⟨vk, hM4⟩, hp4⟩, hb4, _⟩
      subst he
      have hs3 := hb3.size
      have hs4 := hb4.size
      have hb34 : Below w2.heap.size w2 w4 := hb3.trans hb4
      have hbw4 : Below w.heap.size w w4 := hbw2.trans (hb34.mono (by omega))
      replace r0 := (hb34.cell (p := ⟨w.heap.size + 1, 0, none⟩) hl2).trans r0
      replace r1 := (hb34.cell (p := ⟨w.heap.size + 1, 1, none⟩) hl2).trans r1
      replace z0 := (hb34.frozen (p := ⟨w.heap.size + 1, 0, none⟩) hl2).trans z0
      replace z1 := (hb34.frozen (p := ⟨w.heap.size + 1, 1, none⟩) hl2).trans z1
      have hml := mW_len (unhide HA).fit p
      obtain ⟨wa, wc, hvw, hWw, hwc, hwn⟩ := row_wds (mb := 0) (u := .bool true) (off := 0) hM4.wo (by rw [hml]; exact (unhide HA).n256) (by omega)
      obtain ⟨ra, rc, hvr, hWr, _, hrn⟩ := row_wds (mb := 0) (u := .bool true) (off := 0) hM4.ro (by have := (unhide HA).n8; omega) (by omega)
      subst hvw hvr
      have q0 := hM4.box.c0
      have q1 := hM4.box.c1
      have hlm := hM4.box.lt
      have hl4 : w.heap.size + 1 < w4.heap.size := by omega
      have hmb : w2.heap.size ≤ mb := hM4.lo
      have Hfin : Hid (∀ W, W = (w4.setCell ⟨w.heap.size + 1, 0, none⟩ (.slice wa (mW hs fs p).length wc)).setCell ⟨w.heap.size + 1, 1, none⟩ (.slice ra rs.length rc) → MrkRes ws rs (rN : Int) (.returned (.tuple #[.agg #[.slice wa (mW hs fs p).length wc, .slice ra rs.length rc], .int .i64 0])) W ∧ Below w.heap.size w W) := fun W h => by
        subst h
        have hsz : ((w4.setCell ⟨w.heap.size + 1, 0, none⟩ (.slice wa (mW hs fs p).length wc)).setCell ⟨w.heap.size + 1, 1, none⟩ (.slice ra rs.length rc)).heap.size = w4.heap.size := by simp [World.setCell]
        refine ⟨.inr (.inr ⟨unhide HE, by omega, by omega, hs, fs, p, wa, wc, ra, rc, unhide HA, unhide Hws, hp4, rfl, ?_, hwc, ?_⟩), (hbw4.setCell (p := ⟨w.heap.size + 1, 0, none⟩) (by simp) _).setCell (p := ⟨w.heap.size + 1, 1, none⟩) (by simp) _⟩
        · rw [hsz]; exact wds_set (wds_set hWw hwn (by show w.heap.size + 1 < _; omega) _) hwn (by show w.heap.size + 1 < _; omega) _
        · rw [hsz]; exact wds_set (wds_set hWr hrn (by show w.heap.size + 1 < _; omega) _) hrn (by show w.heap.size + 1 < _; omega) _
      clear hM4 hp4 hml hWw hWr hwn hrn Hc3 hb3 hb4 hb34 hwc
      generalize (mW hs fs p).length = n at *
      go_wp2
      exact bodyPost_ret (v := .tuple #[.agg #[.slice wa n wc, .slice ra rs.length rc], .int .i64 0]) (by simp [results, Try.results19, go_sem, r0, r1]) rfl (unhide Hfin _ rfl)
  · have HE := hide hE
    have hfin : Hid (∀ W, Below w.heap.size w W → MrkRes ws rs room (.returned (.tuple #[.agg #[.slice none 0 0, .slice none 0 0], .int .i64 (arenaE ws rs)])) W ∧ Below w.heap.size w W) := fun W h => ⟨.inl ⟨unhide HE, rfl⟩, h⟩
    generalize arenaE ws rs = E at *
    have d0 : (E != 0) = true := by simpa using hE
    clear hE
    go_wp2
    refine bodyPost_ret (v := .tuple #[.agg #[.slice none 0 0, .slice none 0 0], .int .i64 E]) (by simp [results, Try.results19, go_sem, r0, r1]) rfl (unhide hfin _ ((hbw2.setCell (p := ⟨w.heap.size + 1, 0, none⟩) (by simp) _).setCell (p := ⟨w.heap.size + 1, 1, none⟩) (by simp) _))

end Go.Proofs.Ytemjhdbmcdlpeaa

/- Walks: Slide. -/
namespace Go.Proofs.Ytemjhdbmcdlpeaa
set_option linter.unusedSimpArgs false
set_option linter.unusedVariables false
open Go.RowKit Go.Shelf

/-- The words of the arena that was moved down. -/
def slL (hs : List Int) (fs : List (List Int)) (rs : List Int) : List Int := joinW (sH hs (rL fs rs)) (sF fs (rL fs rs))
def slR (fs : List (List Int)) (rs : List Int) : List Int := sR fs (rL fs rs) rs

/-- What Slide tells. -/
def SdRes (base : Nat) (ws rs : List Int) (e : Ending) (W : World) : Prop :=
  (arenaE ws rs ≠ 0 ∧ e = .returned (.tuple #[.agg #[.slice none 0 0, .slice none 0 0], .int .i64 (arenaE ws rs)])) ∨
  (arenaE ws rs = 0 ∧ ∃ hs fs a c a' c', Arn hs fs rs ∧ ws = joinW hs fs ∧ e = .returned (.tuple #[.agg #[.slice a (slL hs fs rs).length c, .slice a' rs.length c'], .int .i64 0]) ∧ WdsF base W a (slL hs fs rs) ∧ (slL hs fs rs).length ≤ c ∧ WdsF base W a' (slR fs rs))

theorem slI_keep {w5 W W' : World} {db : Nat} {vo vm vm' : Value} {hs : List Int} {fs : List (List Int)} {L O : List Int} (h : SlI w5 db vo hs fs L O W vm) (hk : KpS W W' db vm vm') : Keep51 W W' := by
  intro b cs hb
  have hl := (Array.getElem?_eq_some_iff.1 hb).1
  obtain ⟨cs', hc⟩ := h.ty
  have h1 : b ≠ db := fun e => by
    subst e
    rw [hb] at hc
    injection hc with hc
    injection hc with _ hc
    exact absurd hc (by decide)
  have h2 : vm.ownBlock ≠ some b := fun e => by
    obtain ⟨ra, rc, hv⟩ := ownsRow_slice h.row
    subst hv
    rcases h.row.2 with ⟨h0, _⟩ | ⟨g, cap, cur, hv, _, hg, _⟩
    · rw [h0] at e; simp [Value.ownBlock] at e
    · rw [hv] at e
      have e' : g = b := by simpa [Value.ownBlock] using e
      subst e'
      rw [hb] at hg
      injection hg with hg
      injection hg with _ hg
      exact absurd hg (by decide)
  rw [(hk.2 b hl h1 h2).1]
  exact hb

theorem laid_nil (hs : List Int) (fs : List (List Int)) (L : List Int) : laid hs fs L [] = [] := by simp [laid, joinW]

end Go.Proofs.Ytemjhdbmcdlpeaa

/- Walks: the document's Mark. -/
namespace Go.Proofs.Ytemjhdbmcdlpeaa
set_option linter.unusedSimpArgs false
set_option linter.unusedVariables false
open Go.RowKit Go.Shelf

/-- A block that holds no number. -/
def NoNum (W : World) (rb : Nat) : Prop := ∃ cs t, W.heap[rb]? = some (.cells cs t) ∧ ∀ (i : Nat) (k : IntKind) (x : Int), cs[i]? ≠ some (Value.int k x)

theorem NoNum.wds {W : World} {rb B j : Nat} {a : Option Addr} {l : List Int} (h : NoNum W rb) (hw : Wds B W a l) (u : Value) : Wds B (W.setCell ⟨rb, j, none⟩ u) a l := by
  refine ⟨hw.1, fun hne => ?_⟩
  obtain ⟨b, off, rfl, hB, hc⟩ := hw.2 hne
  obtain ⟨cs, t, hb, hn⟩ := h
  have hbr : b ≠ rb := by
    rintro rfl
    have h0 : 0 < l.length := List.length_pos_iff.2 hne
    have := hc 0 l[0] (List.getElem?_eq_getElem h0)
    rw [cell_of_row W b (off + 0) cs t (0, 0) hb] at this
    exact hn _ _ _ this
  refine ⟨b, off, rfl, hB, fun k v hk => ?_⟩
  rw [World.cell?_of_block (a := ⟨b, off + k, none⟩) (Below.heap_setCell _ _ _ _ hbr)]
  exact hc k v hk

theorem NoNum.set {W : World} {rb j : Nat} (h : NoNum W rb) {u : Value} (hu : ∀ (k : IntKind) (x : Int), u ≠ Value.int k x) : NoNum (W.setCell ⟨rb, j, none⟩ u) rb := by
  obtain ⟨cs, t, hb, hn⟩ := h
  refine ⟨_, t, heap_setCell_same W rb j cs t u hb, fun i k x => ?_⟩
  rw [Array.getElem?_setIfInBounds]
  split
  · split
    · intro e; injection e with e; exact hu k x e
    · simp
  · exact hn i k x

theorem ints_keep {B : Nat} {W W' : World} {a : Option Addr} {l : List Int} (h : Ints B W a l) (hb : ∀ b off, a = some ⟨b, off, none⟩ → b < B → W'.heap[b]? = W.heap[b]?) : Ints B W' a l := by
  refine ⟨h.1, fun hne => ?_⟩
  obtain ⟨b, off, rfl, hB, hc⟩ := h.2 hne
  refine ⟨b, off, rfl, hB, fun k v hk => ?_⟩
  rw [World.cell?_of_block (a := ⟨b, off + k, none⟩) (hb b off rfl hB)]
  exact hc k v hk

/-- What the document's Mark tells. -/
def RMk (L rs : List Int) (e : Ending) (W : World) : Prop :=
  ∃ aw cw ar cr, e = .returned (.agg #[.slice aw L.length cw, .slice ar rs.length cr]) ∧ Wds W.heap.size W aw L ∧ Wds W.heap.size W ar rs

end Go.Proofs.Ytemjhdbmcdlpeaa

/- Walks: the document's Slide. -/
namespace Go.Proofs.Ytemjhdbmcdlpeaa
set_option linter.unusedSimpArgs false
set_option linter.unusedVariables false
open Go.RowKit Go.Shelf

/-- What Renumber, headsOf, Lay hand back. -/
def RnS (X : World) (g : Gr) (L : List Int) (v : Value) (W : World) : Prop :=
  ∃ ao co ar cr, v = .agg #[.slice ao (renL g L).objs.length co, .slice ar (renL g L).roots.length cr] ∧ Objs W.heap.size W ao (renL g L).objs ∧ Vals W.heap.size W ar (renL g L).roots ∧ Below X.heap.size X W
def HdS (X : World) (hs L : List Int) (v : Value) (W : World) : Prop :=
  ∃ a c, v = .slice a L.length c ∧ Hdrs W.heap.size W a (sdHd hs L) ∧ Below X.heap.size X W
def LyS (X : World) (L R : List Int) (v : Value) (W : World) : Prop :=
  ∃ aw cw ar cr, v = .agg #[.slice aw L.length cw, .slice ar R.length cr] ∧ Wds W.heap.size W aw L ∧ Wds W.heap.size W ar R ∧ Below X.heap.size X W

theorem lay_slid {hs : List Int} {fs : List (List Int)} {rs : List Int} (hA : Arn hs fs rs) (ao ar ah : Option Addr) (co cr ch : Nat) (X : World)
    (hO : Objs X.heap.size X ao (renL (readG fs rs) (rL fs rs)).objs) (hV : Vals X.heap.size X ar (renL (readG fs rs) (rL fs rs)).roots) (hH : Hdrs X.heap.size X ah (sdHd hs (rL fs rs))) :
    Calls Try.prog 30 #[.agg #[.slice ao (renL (readG fs rs) (rL fs rs)).objs.length co, .slice ar (renL (readG fs rs) (rL fs rs)).roots.length cr], .slice ah (rL fs rs).length ch] X fun e w' => ∃ v, e = .returned v ∧ LyS X (slL hs fs rs) (slR fs rs) v w' := by
  have hG := good_ren (good_read hA) (whole_rL hA)
  obtain ⟨hnr, hno⟩ := num_renL hA (whole_rL hA)
  have h := rlay_c ao ar ah co cr ch (renL (readG fs rs) (rL fs rs)) (sdHd hs (rL fs rs)) X.heap.size X hO hV hH (by rw [sdHd_len, renL_len]) (Nat.le_refl _) hG.n24 hG.n4 hG.n8 hG.rr hG.ro hnr hno
  rw [sdHd_len] at h
  refine h.mono ?_
  rintro e w' ⟨⟨aw', cw', ar', cr', he, h1, h2⟩, h3⟩
  have e1 : layHW (stF 0 (renL (readG fs rs) (rL fs rs)).objs) (sdHd hs (rL fs rs)) (renL (readG fs rs) (rL fs rs)).objs = slL hs fs rs := by
    unfold layHW
    rw [sdHd_hW, ← sF_lay (whole_rL hA)]
    rfl
  have e2 : slR fs rs = _ := sR_lay (whole_rL hA)
  rw [e1] at he h1
  rw [← e2] at he h2
  exact ⟨_, he, aw', cw', ar', cr', rfl, h1, h2, h3⟩

end Go.Proofs.Ytemjhdbmcdlpeaa

/- Plain: which object fills which place. -/
namespace Go.Proofs.Ytemjhdbmcdlpeaa
set_option linter.unusedSimpArgs false
set_option linter.unusedVariables false
open Go.RowKit

/-- All objects have so many words. -/
def Unif (s : Nat) (fs : List (List Int)) : Prop := ∀ f ∈ fs, f.length + 1 = s

theorem Unif.all {s : Nat} : ∀ {fs : List (List Int)}, Unif s fs → tot fs = fs.length * s
  | [], _ => by simp [tot]
  | f :: fs, h => by
    have h1 := h f (by simp)
    have h2 := Unif.all (s := s) (fs := fs) (fun x hx => h x (by simp [hx]))
    rw [tot_cons, h1, h2, List.length_cons, Nat.succ_mul, Nat.add_comm]

theorem Unif.at {s : Nat} {fs : List (List Int)} (h : Unif s fs) {k : Nat} (hk : k ≤ fs.length) : tot (fs.take k) = k * s := by
  have h1 : Unif s (fs.take k) := fun x hx => h x (List.mem_of_mem_take hx)
  rw [h1.all, List.length_take, Nat.min_eq_left hk]

theorem Unif.len {s : Nat} {fs : List (List Int)} (h : Unif s fs) {k : Nat} (hk : k < fs.length) : fs[k].length + 1 = s := h _ (List.getElem_mem hk)

theorem Unif.map {s : Nat} {fs : List (List Int)} (h : Unif s fs) {O : List Int} (hO : ∀ o ∈ O, 0 ≤ o ∧ o < fs.length) : Unif s (O.map (fO fs)) := by
  intro f hf
  obtain ⟨o, ho, rfl⟩ := List.mem_map.1 hf
  have := hO o ho
  obtain ⟨j, rfl⟩ := Int.eq_ofNat_of_zero_le this.1
  rw [fO_at (by omega)]
  exact h.len _

theorem Unif.append {s : Nat} {a b : List (List Int)} (ha : Unif s a) (hb : Unif s b) : Unif s (a ++ b) := fun f hf => by
  rcases List.mem_append.1 hf with h | h
  · exact ha f h
  · exact hb f h

theorem mem_mL (p : Nat → Bool) (n j : Nat) : (j : Int) ∈ mL p n ↔ j < n ∧ p j = true := by
  unfold mL
  constructor
  · intro h
    obtain ⟨k, hk, e⟩ := List.mem_map.1 h
    obtain rfl : k = j := by omega
    have := List.mem_filter.1 hk
    exact ⟨List.mem_range.1 this.1, this.2⟩
  · rintro ⟨h1, h2⟩
    exact List.mem_map.2 ⟨j, List.mem_filter.2 ⟨List.mem_range.2 h1, h2⟩, rfl⟩

theorem mL_nat {p : Nat → Bool} {n : Nat} {x : Int} (h : x ∈ mL p n) : ∃ j : Nat, x = (j : Int) ∧ j < n ∧ p j = true := by
  unfold mL at h
  obtain ⟨k, hk, e⟩ := List.mem_map.1 h
  have := List.mem_filter.1 hk
  exact ⟨k, e.symm, List.mem_range.1 this.1, this.2⟩

theorem mL_len_le (p : Nat → Bool) : ∀ n, (mL p n).length ≤ n
  | 0 => by simp [mL]
  | n + 1 => by
    have ih := mL_len_le p n
    cases h : p n
    · rw [mL_no h]; omega
    · rw [mL_yes h]; simp; omega

/-- Which objects stand at the first i places, and how many of them went there from further up, if those of R are kept. -/
def fgP (R : List Int) : Nat → List Int × Nat
  | 0 => ([], 0)
  | i + 1 => if (i : Int) ∈ R then ((fgP R i).1 ++ [(i : Int)], (fgP R i).2) else ((fgP R i).1 ++ [R.getD (R.length - ((fgP R i).2 + 1)) 0], (fgP R i).2 + 1)

theorem fgP_yes {R : List Int} {i : Nat} (h : (i : Int) ∈ R) : fgP R (i + 1) = ((fgP R i).1 ++ [(i : Int)], (fgP R i).2) := by
  show (if (i : Int) ∈ R then _ else _) = _
  rw [if_pos h]
theorem fgP_no {R : List Int} {i : Nat} (h : (i : Int) ∉ R) : fgP R (i + 1) = ((fgP R i).1 ++ [R.getD (R.length - ((fgP R i).2 + 1)) 0], (fgP R i).2 + 1) := by
  show (if (i : Int) ∈ R then _ else _) = _
  rw [if_neg h]
theorem fgP_len (R : List Int) : ∀ i, (fgP R i).1.length = i
  | 0 => rfl
  | i + 1 => by
    have ih := fgP_len R i
    by_cases h : (i : Int) ∈ R
    · rw [fgP_yes h]; simp [ih]
    · rw [fgP_no h]; simp [ih]
theorem fgP_le (R : List Int) : ∀ i, (fgP R i).2 ≤ i
  | 0 => Nat.le_refl _
  | i + 1 => by
    have ih := fgP_le R i
    by_cases h : (i : Int) ∈ R
    · rw [fgP_yes h]; simp only; omega
    · rw [fgP_no h]; simp only; omega

/-- What holds while one finger goes up to i and the other one down to u. -/
structure Fi (p : Nat → Bool) (n i u : Nat) : Prop where
  iu : i ≤ u
  un : u ≤ n
  cnt : (mL p u).length + (fgP (mL p n) i).2 = (mL p n).length
  low : (fgP (mL p n) i).2 + (mL p i).length = i
  nd : (fgP (mL p n) i).1.Nodup
  mem : ∀ x, x ∈ (fgP (mL p n) i).1 ↔ ∃ j : Nat, x = (j : Int) ∧ p j = true ∧ j < n ∧ (j < i ∨ u ≤ j)
  own : ∀ j, j < i → p j = true → (fgP (mL p n) i).1[j]? = some (j : Int)

theorem Fi.start (p : Nat → Bool) (n : Nat) : Fi p n 0 n := by
  refine ⟨Nat.zero_le _, Nat.le_refl _, by simp [fgP], by simp [fgP, mL], by simp [fgP], fun x => ?_, fun j h => by omega⟩
  simp only [fgP, List.not_mem_nil, false_iff]
  rintro ⟨j, _, _, h1, h2⟩
  omega

theorem Fi.keep {p : Nat → Bool} {n i u : Nat} (h : Fi p n i u) (hi : i < u) (hp : p i = true) : fgP (mL p n) (i + 1) = ((fgP (mL p n) i).1 ++ [(i : Int)], (fgP (mL p n) i).2) ∧ Fi p n (i + 1) u := by
  have hun := h.un
  have e := fgP_yes ((mem_mL p n i).2 ⟨by omega, hp⟩)
  have hl := fgP_len (mL p n) i
  refine ⟨e, by omega, hun, by rw [e]; exact h.cnt, ?_, ?_, fun x => ?_, fun j hj hpj => ?_⟩
  · rw [e, mL_yes hp]
    have := h.low
    simp only [List.length_append, List.length_cons, List.length_nil]
    omega
  · rw [e]
    simp only
    rw [List.nodup_append]
    refine ⟨h.nd, by simp, fun a ha b hb => ?_⟩
    simp only [List.mem_singleton] at hb
    subst hb
    rintro rfl
    obtain ⟨j, e2, _, _, h3⟩ := (h.mem _).1 ha
    omega
  · rw [e]
    simp only [List.mem_append, List.mem_singleton]
    rw [h.mem x]
    constructor
    · rintro (⟨j, h1, h2, h3, h4⟩ | rfl)
      · exact ⟨j, h1, h2, h3, by omega⟩
      · exact ⟨i, rfl, hp, by omega, by omega⟩
    · rintro ⟨j, h1, h2, h3, h4⟩
      by_cases hji : j = i
      · subst hji; exact .inr h1
      · exact .inl ⟨j, h1, h2, h3, by omega⟩
  · rw [e]
    simp only
    by_cases hji : j = i
    · subst hji
      rw [List.getElem?_append_right (by omega), hl]
      simp
    · rw [List.getElem?_append_left (by omega)]
      exact h.own j (by omega) hpj

theorem Fi.down {p : Nat → Bool} {n i u : Nat} (h : Fi p n i (u + 1)) (hi : i < u + 1) (hp : p u = false) : Fi p n i u := by
  have hc := h.cnt
  rw [mL_no hp] at hc
  refine ⟨by omega, by have := h.un; omega, hc, h.low, h.nd, fun x => ?_, h.own⟩
  rw [h.mem x]
  constructor
  · rintro ⟨j, h1, h2, h3, h4⟩
    exact ⟨j, h1, h2, h3, by omega⟩
  · rintro ⟨j, h1, h2, h3, h4⟩
    refine ⟨j, h1, h2, h3, ?_⟩
    have : j ≠ u := fun e => by rw [e, hp] at h2; cases h2
    omega

theorem Fi.swap {p : Nat → Bool} {n i u : Nat} (h : Fi p n i (u + 1)) (hi : i < u + 1) (hp : p i = false) (hq : p u = true) : i < u ∧ fgP (mL p n) (i + 1) = ((fgP (mL p n) i).1 ++ [(u : Int)], (fgP (mL p n) i).2 + 1) ∧ Fi p n (i + 1) u := by
  have hun := h.un
  have hiu : i < u := by
    have : i ≠ u := fun e => by rw [e, hq] at hp; cases hp
    omega
  have hl := fgP_len (mL p n) i
  have hc := h.cnt
  have hup := mL_pre p (u + 1) n hun
  have hul : (mL p (u + 1)).length = (mL p u).length + 1 := by rw [mL_yes hq]; simp
  have hg : (mL p n).getD ((mL p n).length - ((fgP (mL p n) i).2 + 1)) 0 = (u : Int) := by
    obtain ⟨t, ht⟩ := hup
    have e1 : (mL p n).length - ((fgP (mL p n) i).2 + 1) = (mL p u).length := by omega
    rw [e1, List.getD_eq_getElem?_getD, ← ht, mL_yes hq, List.append_assoc, List.getElem?_append_right (Nat.le_refl _)]
    simp
  have hni : (i : Int) ∉ mL p n := fun hm => by have := ((mem_mL p n i).1 hm).2; rw [hp] at this; cases this
  have e := fgP_no hni
  rw [hg] at e
  refine ⟨hiu, e, by omega, by omega, ?_, ?_, ?_, fun x => ?_, fun j hj hpj => ?_⟩
  · rw [e]; simp only; omega
  · rw [e, mL_no hp]
    have := h.low
    simp only
    omega
  · rw [e]
    simp only
    rw [List.nodup_append]
    refine ⟨h.nd, by simp, fun a ha b hb => ?_⟩
    simp only [List.mem_singleton] at hb
    subst hb
    rintro rfl
    obtain ⟨j, e2, _, _, h3⟩ := (h.mem _).1 ha
    omega
  · rw [e]
    simp only [List.mem_append, List.mem_singleton]
    rw [h.mem x]
    constructor
    · rintro (⟨j, h1, h2, h3, h4⟩ | rfl)
      · exact ⟨j, h1, h2, h3, by omega⟩
      · exact ⟨u, rfl, hq, by omega, by omega⟩
    · rintro ⟨j, h1, h2, h3, h4⟩
      by_cases hju : j = u
      · subst hju; exact .inr h1
      · have : j ≠ i := fun e => by rw [e, hp] at h2; cases h2
        exact .inl ⟨j, h1, h2, h3, by omega⟩
  · rw [e]
    simp only
    have : j ≠ i := fun e => by rw [e, hp] at hpj; cases hpj
    rw [List.getElem?_append_left (by omega)]
    exact h.own j (by omega) hpj

/-- Where they meet. -/
theorem Fi.meet {p : Nat → Bool} {n i : Nat} (h : Fi p n i i) : i = (mL p n).length := by
  have := h.cnt
  have := h.low
  omega

theorem Fi.end_ {p : Nat → Bool} {n : Nat} : ∀ (d : Nat) {i u : Nat}, u - i ≤ d → Fi p n i u → Fi p n (mL p n).length (mL p n).length
  | 0, i, u, hd, h => by
    have := h.iu
    obtain rfl : i = u := by omega
    have := h.meet
    rw [← this]; exact h
  | d + 1, i, u, hd, h => by
    have := h.iu
    by_cases e : i = u
    · subst e
      have := h.meet
      rw [← this]; exact h
    · obtain ⟨u, rfl⟩ : ∃ k, u = k + 1 := ⟨u - 1, by omega⟩
      cases hp : p i
      · cases hq : p u
        · exact Fi.end_ d (by omega) (h.down (by omega) hq)
        · exact Fi.end_ d (by omega) (h.swap (by omega) hp hq).2.2
      · exact Fi.end_ d (by omega) (h.keep (by omega) hp).2

theorem Fi.fin (p : Nat → Bool) (n : Nat) : Fi p n (mL p n).length (mL p n).length := Fi.end_ n (by omega) (Fi.start p n)

/-- The objects that are kept, as they come to stand; and how many went. -/
def fgL (R : List Int) : List Int := (fgP R R.length).1
def fgT (R : List Int) : Nat := (fgP R R.length).2

theorem fgL_len (R : List Int) : (fgL R).length = R.length := fgP_len R _

theorem mem_fgL (p : Nat → Bool) (n : Nat) (x : Int) : x ∈ fgL (mL p n) ↔ x ∈ mL p n := by
  unfold fgL
  rw [(Fi.fin p n).mem x]
  constructor
  · rintro ⟨j, rfl, h1, h2, _⟩
    exact (mem_mL p n j).2 ⟨h2, h1⟩
  · intro hx
    obtain ⟨j, rfl, h1, h2⟩ := mL_nat hx
    exact ⟨j, rfl, h2, h1, by omega⟩

/-- A kept object that stands where it may stay stays. -/
theorem fgL_own (p : Nat → Bool) (n : Nat) {j : Nat} (hj : j < (mL p n).length) (hp : p j = true) : (fgL (mL p n))[j]? = some (j : Int) := (Fi.fin p n).own j hj hp

theorem fgL_nodup (p : Nat → Bool) (n : Nat) : (fgL (mL p n)).Nodup := (Fi.fin p n).nd

section
variable {hs : List Int} {fs : List (List Int)} {rs : List Int}

theorem exists_mark (h : Arn hs fs rs) : ∃ p : Nat → Bool, ∀ j, p j = true ↔ Rch fs rs j := by
  classical
  exact ⟨fun j => decide (Rch fs rs j), fun j => by simp⟩

theorem whole_fgL (h : Arn hs fs rs) : Whole (readG fs rs) (fgL (rL fs rs)) := by
  obtain ⟨p, hp⟩ := exists_mark h
  have hW := whole_rL h
  rw [← mL_rL h hp] at hW ⊢
  refine ⟨fgL_nodup _ _, fun o ho => hW.rng o ((mem_fgL _ _ _).1 ho), fun x hx => (mem_fgL _ _ _).2 (hW.roots x hx), fun o ho x hx => (mem_fgL _ _ _).2 (hW.fields o ((mem_fgL _ _ _).1 ho) x hx)⟩

theorem mem_fgL_rL (h : Arn hs fs rs) (x : Int) : x ∈ fgL (rL fs rs) ↔ x ∈ rL fs rs := by
  obtain ⟨p, hp⟩ := exists_mark h
  rw [← mL_rL h hp]
  exact mem_fgL _ _ _

end

/-- A map that tells where those that went are now, by where they stood. -/
def WnD (s : Nat) (p : Nat → Bool) (n u : Nat) (O : List Int) (M : DataW Unit) : Prop :=
  ∀ j, j < n → Maps.has M (.int .i64 (j * s : Nat)) = (p j && decide (u ≤ j)) ∧
    (p j = true → u ≤ j → (j : Int) ∈ O ∧ M.atKey (.int .i64 (j * s : Nat)) (.lit (.int .i64 0)) = .lit (.int .i64 ((O.idxOf (j : Int) * s : Nat) : Int)))

theorem wnD_nil (s : Nat) (p : Nat → Bool) (n : Nat) : WnD s p n n [] (.map []) := fun j hj => ⟨by simp [Maps.has_eq]; omega, fun _ h => by omega⟩

theorem idxOf_snoc {O : List Int} {x y : Int} (h : x ∈ O) : (O ++ [y]).idxOf x = O.idxOf x := idxOf_append_left h

theorem WnD.keep {s : Nat} {p : Nat → Bool} {n u : Nat} {O : List Int} {M : DataW Unit} (h : WnD s p n u O M) (y : Int) : WnD s p n u (O ++ [y]) M := fun j hj => by
  obtain ⟨h1, h2⟩ := h j hj
  refine ⟨h1, fun a b => ?_⟩
  obtain ⟨h3, h4⟩ := h2 a b
  exact ⟨by simp [h3], by rw [idxOf_snoc h3]; exact h4⟩

theorem WnD.down {s : Nat} {p : Nat → Bool} {n u : Nat} {O : List Int} {M : DataW Unit} (h : WnD s p n (u + 1) O M) (hp : p u = false) : WnD s p n u O M := fun j hj => by
  obtain ⟨h1, h2⟩ := h j hj
  by_cases e : j = u
  · subst e
    refine ⟨by rw [h1, hp]; simp, fun a => by rw [hp] at a; cases a⟩
  · refine ⟨by rw [h1]; congr 1; apply decide_eq_decide.2; omega, fun a b => h2 a (by omega)⟩

theorem WnD.put {s : Nat} {p : Nat → Bool} {n u : Nat} {O : List Int} {M : DataW Unit} (h : WnD s p n (u + 1) O M) (hs : 0 < s) (hM : Maps.IsMap M) (hu : u < n) (hp : p u = true) (hn : (u : Int) ∉ O) :
    WnD s p n u (O ++ [(u : Int)]) (M.put (.int .i64 (u * s : Nat)) (.lit (.int .i64 ((O.length * s : Nat) : Int)))) := by
  have hk : WideAt.IsKeyLit (.int .i64 (u * s : Nat)) := trivial
  intro j hj
  by_cases e : j = u
  · subst e
    refine ⟨by rw [Maps.has_put_same hM hk, hp]; simp, fun _ _ => ⟨by simp, ?_⟩⟩
    rw [Maps.atKey_put_same hM hk, idxOf_ge hn]
  · have hne : ((j * s : Nat) : Int) ≠ ((u * s : Nat) : Int) := fun e' => e (Nat.eq_of_mul_eq_mul_right hs (by omega))
    rw [Maps.has_put_other (by simpa using hne), Maps.atKey_put_other (by simpa using hne)]
    obtain ⟨h1, h2⟩ := h j hj
    refine ⟨by rw [h1]; congr 1; apply decide_eq_decide.2; omega, fun a b => ?_⟩
    obtain ⟨h3, h4⟩ := h2 a (by omega)
    exact ⟨by simp [h3], by rw [idxOf_snoc h3]; exact h4⟩

end Go.Proofs.Ytemjhdbmcdlpeaa

/- Walks: header, what turns a word. -/
namespace Go.Proofs.Ytemjhdbmcdlpeaa
set_option linter.unusedSimpArgs false
set_option linter.unusedVariables false
open Go.RowKit Go.Shelf

set_option maxRecDepth 100000 in
set_option maxHeartbeats 1000000 in
theorem fheader_c (x : Int) (w : World) (h1 : 0 ≤ x) (h2 : x < 18446744073709551616) :
    Calls Try.prog 39 #[.int .u64 x] w fun e w' => e = .returned (.agg #[.int .i64 (uhL x), .bool (uhM x), .int .i64 (uhA x)]) ∧ Below w.heap.size w w' := by
  have hb0 : Below w.heap.size w (w.alloc (.cells #[.int .i64 0, .bool false, .int .i64 0] 32)) := (Below.refl _ _).alloc (Nat.le_refl _) _
  go_enter Try.func39, Try.ntmps39
  go_wp2_with fail
  refine (unhead_c x _ h1 h2).mono ?_
  rintro e w2 ⟨rfl, hb2⟩
  simp only [World.size_alloc] at hb2
  have g0 := hb2.cell (p := ⟨w.heap.size, 0, none⟩) (show w.heap.size < _ by omega)
  have g1 := hb2.cell (p := ⟨w.heap.size, 1, none⟩) (show w.heap.size < _ by omega)
  have g2 := hb2.cell (p := ⟨w.heap.size, 2, none⟩) (show w.heap.size < _ by omega)
  have f0 := hb2.frozen (p := ⟨w.heap.size, 0, none⟩) (show w.heap.size < _ by omega)
  have f1 := hb2.frozen (p := ⟨w.heap.size, 1, none⟩) (show w.heap.size < _ by omega)
  have f2 := hb2.frozen (p := ⟨w.heap.size, 2, none⟩) (show w.heap.size < _ by omega)
  simp [go_sem] at g0 g1 g2 f0 f1 f2
  have hs2 := hb2.size
  simp only [World.size_alloc] at hs2
  have hlt2 : w.heap.size < w2.heap.size := by omega
  have hbw2 := hb0.trans (hb2.mono (by omega))
  clear hb0 hb2
  go_wp2
  obtain ⟨W3, hW3⟩ : ∃ W3, ((w2.setCell ⟨w.heap.size, 0, none⟩ (.int .i64 (uhL x))).setCell ⟨w.heap.size, 1, none⟩ (.bool (uhM x))).setCell ⟨w.heap.size, 2, none⟩ (.int .i64 (uhA x)) = W3 := ⟨_, rfl⟩
  have i0 : W3.cell? ⟨w.heap.size, 0, none⟩ = some (.int .i64 (uhL x)) := by rw [← hW3]; simp [go_sem, g0, g1, g2]
  have i1 : W3.cell? ⟨w.heap.size, 1, none⟩ = some (.bool (uhM x)) := by rw [← hW3]; simp [go_sem, g0, g1, g2]
  have i2 : W3.cell? ⟨w.heap.size, 2, none⟩ = some (.int .i64 (uhA x)) := by rw [← hW3]; simp [go_sem, g0, g1, g2]
  have hlt3 : w.heap.size < W3.heap.size := by rw [← hW3]; simpa [World.setCell] using hlt2
  have hb3 : Below w.heap.size w W3 := by rw [← hW3]; exact ((hbw2.setCell (p := ⟨w.heap.size, 0, none⟩) (Nat.le_refl _) _).setCell (p := ⟨w.heap.size, 1, none⟩) (Nat.le_refl _) _).setCell (p := ⟨w.heap.size, 2, none⟩) (Nat.le_refl _) _
  rw [hW3]
  clear hW3
  obtain ⟨W4, hW4⟩ : ∃ W4, W3.alloc (.cells #[.int .i64 (uhL x), .bool (uhM x), .int .i64 (uhA x)] 32) = W4 := ⟨_, rfl⟩
  rw [hW4]
  have hb4 : Below w.heap.size w W4 := by rw [← hW4]; exact hb3.alloc (by omega) _
  have k0 : W4.cell? ⟨w.heap.size, 0, none⟩ = some (.int .i64 (uhL x)) := by rw [← hW4, World.cell?_alloc_past _ _ _ hlt3]; exact i0
  have k1 : W4.cell? ⟨w.heap.size, 1, none⟩ = some (.bool (uhM x)) := by rw [← hW4, World.cell?_alloc_past _ _ _ hlt3]; exact i1
  have k2 : W4.cell? ⟨w.heap.size, 2, none⟩ = some (.int .i64 (uhA x)) := by rw [← hW4, World.cell?_alloc_past _ _ _ hlt3]; exact i2
  refine bodyPost_ret (v := .agg #[.int .i64 (uhL x), .bool (uhM x), .int .i64 (uhA x)]) (by simp [results, Try.results39, go_sem, k0, k1, k2]) rfl ?_
  exact ⟨rfl, hb4⟩

theorem wf_i64g {x : Int} (h1 : -9223372036854775808 ≤ x) (h2 : x ≤ 9223372036854775807) : (Lit.int .i64 x).wf = true := by
  simp [Lit.wf, IntKind.min, IntKind.max, IntKind.signed, IntKind.bits]; omega

/-- A map in memory that tells where those that went are now. -/
def WnM (W : World) (N mb s : Nat) (p : Nat → Bool) (n u t : Nat) (O : List Int) : Prop := ∃ M, W.ownsMap Try.prog 3 (plainElem Try.prog 3) mb t M ∧ N ≤ mb ∧ WnD s p n u O M ∧ Maps.size M = t

theorem WnM.lt {W : World} {N mb s : Nat} {p : Nat → Bool} {n u t : Nat} {O : List Int} (h : WnM W N mb s p n u t O) : mb < W.heap.size := by
  obtain ⟨M, h1, _⟩ := h
  exact h1.lt

theorem WnM.kept {W W' : World} {N mb s : Nat} {p : Nat → Bool} {n u t : Nat} {O : List Int} {o : Option Nat} (h : WnM W N mb s p n u t O) (hg : W.grownBy W' o) (ho : some mb ≠ o) : WnM W' N mb s p n u t O := by
  obtain ⟨M, h1, h2, h3⟩ := h
  exact ⟨M, h1.kept hg ho, h2, h3⟩

theorem WnM.below {W W' : World} {N mb s : Nat} {p : Nat → Bool} {n u t : Nat} {O : List Int} (h : WnM W N mb s p n u t O) (hb : Below W.heap.size W W') : WnM W' N mb s p n u t O := h.kept (grown_none hb) (by simp)

set_option maxRecDepth 100000 in
theorem WnM.look {W : World} {N mb s : Nat} {p : Nat → Bool} {n u t : Nat} {O : List Int} (h : WnM W N mb s p n u t O) {x : Int} (h1 : -9223372036854775808 ≤ x) (h2 : x ≤ 9223372036854775807) :
    ∃ (d : Int) (b : Bool), (Instr.lookup 52 (.map (some mb)) (.int .i64 x) true).run Try.prog W = .ok (.tuple #[.int .i64 d, .bool b]) W ∧ ∀ j, j < n → x = ((j * s : Nat) : Int) → b = (p j && decide (u ≤ j)) ∧ (p j = true → u ≤ j → d = ((O.idxOf (j : Int) * s : Nat) : Int)) := by
  obtain ⟨M, hm, _, hd, _⟩ := h
  obtain ⟨v, ps, e1, e2⟩ := hm.look_ok (Maps.int_keyed Try.underlying3) Try.underlying52 (Try.zeroValue3 _) (plainElem_int Try.underlying3 (by decide)) (Maps.keyOf_int_mk Try.underlying3 (wf_i64g h1 h2))
  obtain ⟨d, rfl, e3, _⟩ := plainElem_int_inv Try.underlying3 e2
  refine ⟨d, _, e1, fun j hj e => ?_⟩
  subst e
  obtain ⟨h3, h4⟩ := hd j hj
  refine ⟨h3, fun a b => ?_⟩
  have h5 := (h4 a b).2
  injection e3 with e3 _
  rw [h5] at e3
  injection e3 with e3
  injection e3 with _ e3
  exact e3.symm

theorem unNum_lo (x : Int) (h1 : 0 ≤ x) (h2 : x < 18446744073709551616) : -9223372036854775808 ≤ unNum x ∧ unNum x ≤ 9223372036854775807 := by
  unfold unNum
  split
  · split <;> omega
  · split <;> omega

/-- A word, turned. -/
theorem twW_uni {s : Nat} {fs : List (List Int)} {L : List Int} (hu : Unif s fs) (hO : OOk fs L) {x : Int} {j : Nat} (hr : unRef x = true) (hj : (stF 0 fs)[j]? = some (unNum x)) (hm : (j : Int) ∈ L) :
    unNum x = ((j * s : Nat) : Int) ∧ j < fs.length ∧ twW fs L x = packW true ((L.idxOf (j : Int) * s : Nat) : Int) := by
  have hjl : j < fs.length := by have := (List.getElem?_eq_some_iff.1 hj).1; rw [stF_len] at this; exact this
  have hg := stF_get fs 0 j hjl
  rw [hj, Nat.zero_add, hu.at (by omega)] at hg
  injection hg with hg
  refine ⟨hg, hjl, ?_⟩
  rw [twW_ref (by rw [valW_ref hr, placeOf_nodup (stF_nodup fs 0) hj]) hm, (hu.map hO.rng).at (by have := List.idxOf_lt_length_iff.2 hm; simp; omega)]

set_option maxRecDepth 100000 in
set_option maxHeartbeats 2000000 in
theorem tw1_c (x : Int) (fs : List (List Int)) (L : List Int) (s : Nat) (p : Nat → Bool) (N mb pb t : Nat) (w : World) (hx1 : 0 ≤ x) (hx2 : x < 18446744073709551616) (hok : okW (stF 0 fs) x = true) (hu : Unif s fs) (hO : OOk fs L)
    (hpb : w.cell? ⟨pb, 0, none⟩ = some (.map (some mb))) (hM : WnM w N mb s p fs.length L.length t L) (hin : ∀ j : Nat, unRef x = true → (stF 0 fs)[j]? = some (unNum x) → (j : Int) ∈ L ∧ p j = true)
    (hown : ∀ j : Nat, j < L.length → p j = true → L[j]? = some (j : Int)) (h256 : tot fs ≤ 256) :
    Calls Try.prog 42 #[.int .u64 x, .pointer (some ⟨pb, 0, none⟩)] w fun e w' => e = .returned (.int .u64 (twW fs L x)) ∧ Below w.heap.size w w' := by
  have hl0 : pb < w.heap.size := World.block_lt_of_cell? w _ hpb
  have Hc := hide (unpack_c x w hx1 hx2)
  have HM := hide hM
  have hb := unNum_lo x hx1 hx2
  have Href := hide (fun (j : Nat) (hr : unRef x = true) (hj : (stF 0 fs)[j]? = some (unNum x)) => twW_uni (L := L) hu hO hr hj (hin j hr hj).1)
  have Hin := hide hin
  have Hex := hide (ok_ref hok)
  have Hpk := hide (pack_un x hx1 hx2 (ok_ref hok).1)
  have Hnum : Hid (unRef x = false → twW fs L x = x) := fun h => twW_num h hx1 hx2 (ok_ref hok).1
  have HO := hide hO
  have Hu := hide hu
  have Hown := hide hown
  clear hM hin hok hO hu hown
  go_enter Try.func42, Try.ntmps42
  go_wp2_with fail
  refine (unhide Hc).mono ?_
  rintro e w3 ⟨rfl, hb3⟩
  have hs3 := hb3.size
  have hl3 : pb < w3.heap.size := by omega
  replace hpb := (hb3.cell (p := ⟨pb, 0, none⟩) hl0).trans hpb
  have hbf := hb3.alloc hs3 (.cells #[.bool (unRef x), .int .i64 (unNum x)] 64)
  have HM3 := hide ((unhide HM).below hbf)
  obtain ⟨d, b, hlk, hd⟩ := (unhide HM3).look hb.1 hb.2
  have Hd := hide hd
  clear hd Hc HM
  cases hr : unRef x
  · have hx := unhide Hnum hr
    rw [hr] at hlk hbf
    cases b
    · go_wp2
      go_ret
      exact ⟨by rw [hx]; rfl, hbf⟩
    · go_wp2
      go_ret
      exact ⟨by rw [hx]; rfl, hbf⟩
  · obtain ⟨j, hj⟩ := (unhide Hex).2 hr
    obtain ⟨h1, h2, h3⟩ := unhide Href j hr hj
    obtain ⟨hm, hp⟩ := unhide Hin j hr hj
    obtain ⟨h4, h5⟩ := unhide Hd j h2 h1
    rw [hp, Bool.true_and] at h4
    rw [hr] at hlk hbf
    by_cases hle : L.length ≤ j
    · have hbt : b = true := by rw [h4]; simpa using hle
      have hd := h5 hp hle
      have hq : L.idxOf (j : Int) * s ≤ 256 := by
        have h6 := List.idxOf_lt_length_iff.2 hm
        have h7 := ((unhide Hu).map (unhide HO).rng).all
        have h8 := (unhide HO).tot_le
        rw [h7, List.length_map] at h8
        have := Nat.mul_le_mul_right s (Nat.le_of_lt h6)
        omega
      subst hbt hd
      have Hc2 := hide (fun W => pack_c true ((L.idxOf (j : Int) * s : Nat) : Int) W (by omega) (by omega))
      clear h4 h5 hm h2 Href Hin Hex Hpk Hnum HO Hu Hown Hd hq
      generalize L.idxOf (j : Int) * s = q at *
      clear HM3 h1
      go_wp2_with fail
      refine (unhide Hc2 _).mono ?_
      rintro e w5 ⟨rfl, hb5⟩
      have hb5' := hbf.trans (hb5.mono (by simp; omega))
      go_wp2
      go_ret
      exact ⟨by rw [h3]; rfl, hb5'⟩
    · have hbf' : b = false := by rw [h4]; simp; omega
      have hself : twW fs L x = x := by
        rw [h3]
        have e := unhide Hown j (by omega) hp
        have e2 : L.idxOf (j : Int) = j := by
          have h6 := List.idxOf_lt_length_iff.2 hm
          have h7 := List.getElem?_eq_getElem h6
          rw [List.getElem_idxOf h6] at h7
          exact (List.getElem?_inj h6 (unhide HO).nd).1 (h7.trans e.symm)
        rw [e2, ← h1, ← hr]
        exact (unhide Hpk).2
      subst hbf'
      clear h3 h4 h5 h1 Href Hin Hex Hpk Hnum HO Hu Hown Hd HM3
      go_wp2
      go_ret
      exact ⟨by rw [hself]; rfl, hbf⟩

end Go.Proofs.Ytemjhdbmcdlpeaa

/- Walks: rows of words that are written. -/
namespace Go.Proofs.Ytemjhdbmcdlpeaa
set_option linter.unusedSimpArgs false
set_option linter.unusedVariables false
open Go.RowKit Go.Shelf

/-- An owned row's cells. -/
theorem own_cur {W : World} {N g n c : Nat} {ws : List Int} (h : W.ownsRow N 56 1 (.slice (some ⟨g, 0, none⟩) n c) n (wordsV ws)) :
    ∃ cur, W.heap[g]? = some (.cells cur 56 (0, 0)) ∧ N ≤ g ∧ n ≤ c ∧ c ≤ maxLen ∧ cur.size = c ∧ cur.toList.take n = wordsV ws ∧ ws.length = n := by
  obtain ⟨h0, h2⟩ := h
  rw [wordsV_len] at h0
  rcases h2 with ⟨hv, _⟩ | ⟨g', cap, cur, hv, h3, h4, h5, h6, h7, h8⟩
  · cases hv
  · injection hv with e1 _ e2
    injection e1 with e1
    injection e1 with e1
    subst e1 e2
    exact ⟨cur, h4, h3, h5, h6, by omega, by simpa using h8, by omega⟩

theorem own_of_cur {W : World} {N g n c : Nat} {ws : List Int} {cur : Array Value} (h1 : W.heap[g]? = some (.cells cur 56 (0, 0))) (h2 : N ≤ g) (h3 : n ≤ c) (h4 : c ≤ maxLen) (h5 : cur.size = c) (h6 : cur.toList.take n = wordsV ws) (h7 : ws.length = n) :
    W.ownsRow N 56 1 (.slice (some ⟨g, 0, none⟩) n c) n (wordsV ws) :=
  ⟨by rw [wordsV_len]; omega, .inr ⟨g, c, cur, rfl, h2, h1, h3, h4, by omega, by simpa using h6⟩⟩

theorem own_cell {W : World} {N g n c : Nat} {ws : List Int} (h : W.ownsRow N 56 1 (.slice (some ⟨g, 0, none⟩) n c) n (wordsV ws)) {j : Nat} {x : Int} (hx : ws[j]? = some x) : W.cell? ⟨g, j, none⟩ = some (.int .u64 x) ∧ W.frozen? ⟨g, j, none⟩ = false := by
  obtain ⟨cur, h1, _, h3, _, h5, h6, h7⟩ := own_cur h
  have hl := (List.getElem?_eq_some_iff.1 hx).1
  refine ⟨?_, ?_⟩
  · rw [cell_of_row W g j cur 56 (0, 0) h1]
    have : (wordsV ws)[j]? = some (.int .u64 x) := by simp [wordsV, hx]
    rw [← h6, List.getElem?_take, if_pos (by omega)] at this
    simpa using this
  · exact frozen_of_row W g j cur 56 h1

/-- A word is stored. -/
theorem own_set {W : World} {N g n c : Nat} {ws : List Int} (h : W.ownsRow N 56 1 (.slice (some ⟨g, 0, none⟩) n c) n (wordsV ws)) (j : Nat) (y : Int) :
    (W.setCell ⟨g, j, none⟩ (.int .u64 y)).ownsRow N 56 1 (.slice (some ⟨g, 0, none⟩) n c) n (wordsV (ws.set j y)) := by
  have e : wordsV (ws.set j y) = (wordsV ws).set j (.int .u64 y) := by simp [wordsV, List.map_set]
  rw [e]
  exact (h.stored j (.int .u64 y)).1

/-- Words from a place on are laid over. -/
def splW (ws : List Int) (o : Nat) (cs : List Int) : List Int := ws.take o ++ (cs ++ ws.drop (o + cs.length))

theorem splW_len {ws cs : List Int} {o : Nat} (h : o + cs.length ≤ ws.length) : (splW ws o cs).length = ws.length := by simp [splW]; omega

theorem own_spl {W : World} {N g n c : Nat} {ws cs : List Int} {o : Nat} (h : W.ownsRow N 56 1 (.slice (some ⟨g, 0, none⟩) n c) n (wordsV ws)) (hfit : o + cs.length ≤ n) {cur : Array Value} (hg : W.heap[g]? = some (.cells cur 56 (0, 0))) :
    (W.setRow g (cur.toList.take o ++ wordsV cs ++ cur.toList.drop (o + (wordsV cs).length)).toArray).ownsRow N 56 1 (.slice (some ⟨g, 0, none⟩) n c) n (wordsV (splW ws o cs)) := by
  obtain ⟨cur', h1, h2, h3, h4, h5, h6, h7⟩ := own_cur h
  rw [hg] at h1
  injection h1 with h1
  injection h1 with h1
  subst h1
  refine own_of_cur (setRow_heap W g _ _ _ _ hg) h2 h3 h4 ?_ ?_ ?_
  · simp [wordsV_len]; omega
  · rw [wordsV_len]
    have e : wordsV (splW ws o cs) = (wordsV ws).take o ++ (wordsV cs ++ (wordsV ws).drop (o + cs.length)) := by simp [splW, wordsV]
    rw [e]
    have hr : cur.toList = wordsV ws ++ cur.toList.drop n := by rw [← h6]; exact (List.take_append_drop n _).symm
    have hwl := wordsV_len ws
    generalize cur.toList.drop n = rest at *
    clear h6
    have hcl := wordsV_len cs
    generalize wordsV ws = A at *
    generalize wordsV cs = B at *
    have e1 : (A ++ rest).take o = A.take o := List.take_append_of_le_length (by omega)
    have e2 : (A ++ rest).drop (o + cs.length) = A.drop (o + cs.length) ++ rest := List.drop_append_of_le_length (by omega)
    simp only [hr, e1, hcl, e2]
    have e3 : A.take o ++ B ++ (A.drop (o + cs.length) ++ rest) = (A.take o ++ (B ++ A.drop (o + cs.length))) ++ rest := by simp [List.append_assoc]
    rw [e3, List.take_append_of_le_length (by simp; omega), List.take_of_length_le (by simp; omega)]
  · rw [splW_len (by omega)]; exact h7

theorem grown_row {W : World} {g : Nat} {cs : Array Value} : W.grownBy (W.setRow g cs) (some g) :=
  ⟨rfl, rfl, rfl, by simp [World.setRow], fun k hk hne => setRow_other W g k cs (fun e => hne (by rw [e]))⟩

theorem step_cp {ops : Array Oper} {o : Oper} {a : Act} {w : World} {K : Act → World → Prop} {Q : Exit → Act → World → Prop} {E : Prop}
    (hg : o.guard = none) (d x : Operand) (dT sT : TypeId) (hop : o.op = Op.call { callee := Callee.builtin Builtin.copy, args := #[d, x], argTypes := #[dT, sT] })
    (v u : Value) (hd : a.eval d = v) (hx : a.eval x = u) {v' : Value} {w' : World} (hr : (Builtin.copy_ #[dT, sT] o.type #[v, u]).run Try.prog w = .ok v' w') (hK : K (a.put o.dst v') w') :
    if Region.wanted o (yielded ops a.tmps) = true then Oper.wp Try.prog o a w K Q else E := by
  have hw : Region.wanted o (yielded ops a.tmps) = true := by simp [Region.wanted, hg]
  rw [if_pos hw]
  unfold Oper.wp
  simp [execOp, hop, resolve, invoke, builtin, hd, hx, hr, Result.andThen]
  exact hK

end Go.Proofs.Ytemjhdbmcdlpeaa

/- Plain: the words of objects of one size. -/
namespace Go.Proofs.Ytemjhdbmcdlpeaa
set_option linter.unusedSimpArgs false
set_option linter.unusedVariables false
open Go.RowKit

theorem joinW_parts {A : List Int} {B : List (List Int)} (hl : A.length = B.length) {k : Nat} (hk : k < B.length) {x : Int} {f : List Int} (hx : A[k]? = some x) (hf : B[k]? = some f) :
    joinW A B = joinW (A.take k) (B.take k) ++ ((x :: f) ++ joinW (A.drop (k + 1)) (B.drop (k + 1))) := by
  have e1 : A = A.take k ++ (x :: A.drop (k + 1)) := by
    have hk' : k < A.length := by omega
    rw [List.getElem?_eq_getElem hk'] at hx
    injection hx with hx
    rw [← hx, ← List.drop_eq_getElem_cons hk', List.take_append_drop]
  have e2 : B = B.take k ++ (f :: B.drop (k + 1)) := by
    rw [List.getElem?_eq_getElem hk] at hf
    injection hf with hf
    rw [← hf, ← List.drop_eq_getElem_cons hk, List.take_append_drop]
  have e3 : joinW A B = joinW (A.take k ++ (x :: A.drop (k + 1))) (B.take k ++ (f :: B.drop (k + 1))) := by rw [← e1, ← e2]
  rw [e3, joinW_append _ _ _ _ (by simp; omega)]
  rfl

section
variable {s : Nat} {A : List Int} {B : List (List Int)}

theorem uj_pre (hl : A.length = B.length) (hu : Unif s B) {k : Nat} (hk : k ≤ B.length) : (joinW (A.take k) (B.take k)).length = k * s := by
  rw [joinW_len _ _ (by simp; omega), hu.at hk]

theorem uj_len (hl : A.length = B.length) (hu : Unif s B) : (joinW A B).length = B.length * s := by rw [joinW_len _ _ hl, hu.all]

theorem uj_get (hl : A.length = B.length) (hu : Unif s B) {k : Nat} (hk : k < B.length) : (joinW A B)[k * s]? = A[k]? := by
  rw [← hu.at (by omega)]
  exact joinW_get A B k hl hk

theorem uj_set (hl : A.length = B.length) (hu : Unif s B) {k : Nat} (hk : k < B.length) (y : Int) : (joinW A B).set (k * s) y = joinW (A.set k y) B := by
  rw [← hu.at (by omega)]
  exact joinW_set A B k y hl hk

theorem uj_obj (hl : A.length = B.length) (hu : Unif s B) {k : Nat} (hk : k < B.length) {x : Int} {f : List Int} (hx : A[k]? = some x) (hf : B[k]? = some f) : ((joinW A B).drop (k * s)).take s = x :: f := by
  have hfs : f.length + 1 = s := hu f (List.mem_of_getElem? hf)
  rw [joinW_parts hl hk hx hf]
  have h1 := uj_pre hl hu (show k ≤ B.length by omega)
  rw [List.drop_append_of_le_length (by omega), List.drop_of_length_le (by omega), List.nil_append, List.take_append_of_le_length (by simp; omega), List.take_of_length_le (by simp; omega)]

theorem uj_fields (hl : A.length = B.length) (hu : Unif s B) {k : Nat} (hk : k < B.length) {f : List Int} (hf : B[k]? = some f) : ((joinW A B).drop (k * s + 1)).take f.length = f := by
  rw [← hu.at (by omega)]
  exact joinW_fields A B k f hl hf

theorem uj_spl (hl : A.length = B.length) (hu : Unif s B) {k : Nat} (hk : k < B.length) (y : Int) {g : List Int} (hg : g.length + 1 = s) : splW (joinW A B) (k * s) (y :: g) = joinW (A.set k y) (B.set k g) := by
  have hk' : k < A.length := by omega
  have h1 := uj_pre hl hu (show k ≤ B.length by omega)
  have hx := List.getElem?_eq_getElem hk'
  have hf := List.getElem?_eq_getElem hk
  have hfs := hu.len hk
  rw [joinW_parts hl hk hx hf, joinW_parts (A := A.set k y) (B := B.set k g) (by simpa using hl) (by simpa using hk) (x := y) (f := g) (by simp [hk']) (by simp [hk])]
  unfold splW
  rw [List.take_append_of_le_length (by omega), List.take_of_length_le (by omega)]
  rw [List.take_set_of_le (Nat.le_refl _), List.take_set_of_le (Nat.le_refl _), List.drop_set_of_lt (by omega), List.drop_set_of_lt (by omega)]
  congr 2
  rw [List.drop_append, h1, show k * s + (y :: g).length - k * s = s by simp; omega, List.drop_of_length_le (by simp; omega), List.nil_append, List.drop_append, List.drop_of_length_le (by simp; omega), List.nil_append]
  simp [hfs]

theorem uj_fspl (hl : A.length = B.length) (hu : Unif s B) {k : Nat} (hk : k < B.length) {g : List Int} (hg : g.length + 1 = s) : splW (joinW A B) (k * s + 1) g = joinW A (B.set k g) := by
  have hk' : k < A.length := by omega
  have h1 := uj_pre hl hu (show k ≤ B.length by omega)
  have hx := List.getElem?_eq_getElem hk'
  have hf := List.getElem?_eq_getElem hk
  have hfs := hu.len hk
  have e := uj_spl hl hu hk A[k] hg
  rw [List.set_getElem_self] at e
  rw [← e]
  have hgt : (joinW A B)[k * s]? = some A[k] := by rw [uj_get hl hu hk]; exact hx
  have hlt := (List.getElem?_eq_some_iff.1 hgt)
  unfold splW
  rw [List.take_succ_eq_append_getElem hlt.1, hlt.2]
  simp only [List.append_assoc, List.cons_append, List.nil_append, List.length_cons]
  congr 3
  congr 1
  omega

theorem uj_take (hl : A.length = B.length) (hu : Unif s B) {k : Nat} (hk : k ≤ B.length) : (joinW A B).take (k * s) = joinW (A.take k) (B.take k) := by
  have e3 : joinW A B = joinW (A.take k ++ A.drop k) (B.take k ++ B.drop k) := by rw [List.take_append_drop, List.take_append_drop]
  have h1 := uj_pre hl hu hk
  rw [e3, joinW_append _ _ _ _ (by simp; omega), List.take_append_of_le_length (by omega), List.take_of_length_le (by omega)]

end

/-- A marked header, by the object's number. -/
def rM (hs : List Int) (o : Int) : Int := reh true (hs.getD o.toNat 0)
/-- The headers and fields of what stands at each place, while holes are filled. -/
def fgA (hs : List Int) (p : Nat → Bool) (l : List Int) (i : Nat) : List Int := l.map (rM hs) ++ (mkH hs p).drop i
def fgB (fs : List (List Int)) (l : List Int) (i : Nat) : List (List Int) := l.map (fO fs) ++ fs.drop i

section
variable {hs : List Int} {fs : List (List Int)} {rs : List Int} {p : Nat → Bool}

theorem rM_at {i : Nat} {y : Int} (h : hs[i]? = some y) : rM hs (i : Int) = reh true y := by simp [rM, List.getD_eq_getElem?_getD, h]

theorem fgA_start (hs : List Int) (p : Nat → Bool) : fgA hs p [] 0 = mkH hs p := by simp [fgA]
theorem fgB_start (fs : List (List Int)) : fgB fs [] 0 = fs := by simp [fgB]

theorem fgA_len {l : List Int} {i : Nat} (hl : l.length = i) (hi : i ≤ hs.length) : (fgA hs p l i).length = hs.length := by
  unfold fgA; rw [List.length_append, List.length_map, List.length_drop, mkH_len]; omega
theorem fgB_len {l : List Int} {i : Nat} (hl : l.length = i) (hi : i ≤ fs.length) : (fgB fs l i).length = fs.length := by
  unfold fgB; rw [List.length_append, List.length_map, List.length_drop]; omega

theorem fgB_unif {s : Nat} (hu : Unif s fs) {l : List Int} (hl : ∀ o ∈ l, 0 ≤ o ∧ o < fs.length) (i : Nat) : Unif s (fgB fs l i) :=
  (hu.map hl).append fun f hf => hu f (List.mem_of_mem_drop hf)

theorem fgA_get {l : List Int} {i j : Nat} (hl : l.length = i) (hj : i ≤ j) : (fgA hs p l i)[j]? = (mkH hs p)[j]? := by
  unfold fgA
  rw [List.getElem?_append_right (by simp; omega), List.getElem?_drop]
  congr 1
  simp; omega
theorem fgB_get {l : List Int} {i j : Nat} (hl : l.length = i) (hj : i ≤ j) : (fgB fs l i)[j]? = fs[j]? := by
  unfold fgB
  rw [List.getElem?_append_right (by simp; omega), List.getElem?_drop]
  congr 1
  simp; omega

theorem fgA_keep {l : List Int} {i : Nat} (hi : i < hs.length) (hp : p i = true) : fgA hs p (l ++ [(i : Int)]) (i + 1) = fgA hs p l i := by
  unfold fgA
  have hi' : i < (mkH hs p).length := by rw [mkH_len]; exact hi
  have e : (mkH hs p)[i] = rM hs (i : Int) := by
    have := mkH_get hs p i
    rw [List.getElem?_eq_getElem hi', List.getElem?_eq_getElem hi] at this
    injection this with this
    rw [this, hp, rM_at (List.getElem?_eq_getElem hi)]
  rw [List.drop_eq_getElem_cons hi', e]
  simp
theorem fgB_keep {l : List Int} {i : Nat} (hi : i < fs.length) : fgB fs (l ++ [(i : Int)]) (i + 1) = fgB fs l i := by
  unfold fgB
  rw [List.drop_eq_getElem_cons hi, ← fO_at hi]
  simp

theorem set_mid {α : Type} {a b : List α} {i : Nat} (ha : a.length = i) (x : α) (hb : 0 < b.length) : (a ++ b).set i x = a ++ [x] ++ b.drop 1 := by
  subst ha
  rw [List.set_append_right _ _ (Nat.le_refl _), Nat.sub_self]
  cases b with
  | nil => simp at hb
  | cons y b => simp

theorem fgA_swap {l : List Int} {i : Nat} (hl : l.length = i) (hi : i < hs.length) (o : Int) : (fgA hs p l i).set i (rM hs o) = fgA hs p (l ++ [o]) (i + 1) := by
  unfold fgA
  rw [set_mid (by simpa using hl) _ (by rw [List.length_drop, mkH_len]; omega), List.drop_drop]
  simp
theorem fgB_swap {l : List Int} {i : Nat} (hl : l.length = i) (hi : i < fs.length) (o : Int) : (fgB fs l i).set i (fO fs o) = fgB fs (l ++ [o]) (i + 1) := by
  unfold fgB
  rw [set_mid (by simpa using hl) _ (by rw [List.length_drop]; omega), List.drop_drop]
  simp

theorem fgA_take {l : List Int} {i : Nat} (hl : l.length = i) : (fgA hs p l i).take i = l.map (rM hs) := by
  unfold fgA
  rw [List.take_append_of_le_length (by simp; omega), List.take_of_length_le (by simp; omega)]
theorem fgB_take {l : List Int} {i : Nat} (hl : l.length = i) : (fgB fs l i).take i = l.map (fO fs) := by
  unfold fgB
  rw [List.take_append_of_le_length (by simp; omega), List.take_of_length_le (by simp; omega)]

end

/-- Of two lists the one up to a place, and the other one from there on. -/
def mix {α : Type} (X Y : List α) (k : Nat) : List α := X.take k ++ Y.drop k

section
variable {α : Type} {X Y : List α}
theorem mix_zero (X Y : List α) : mix X Y 0 = Y := by simp [mix]
theorem mix_all (h : X.length = Y.length) : mix X Y X.length = X := by unfold mix; rw [List.take_length, List.drop_of_length_le (by omega), List.append_nil]
theorem mix_len (h : X.length = Y.length) {k : Nat} (hk : k ≤ X.length) : (mix X Y k).length = X.length := by simp [mix]; omega
theorem mix_get (h : X.length = Y.length) {k : Nat} (hk : k ≤ X.length) : (mix X Y k)[k]? = Y[k]? := by
  unfold mix
  rw [List.getElem?_append_right (by simp; omega), List.getElem?_drop]
  congr 1
  simp; omega
theorem mix_set (h : X.length = Y.length) {k : Nat} (hk : k < X.length) {x : α} (hx : X[k]? = some x) : (mix X Y k).set k x = mix X Y (k + 1) := by
  unfold mix
  rw [set_mid (by simp; omega) _ (by simp; omega), List.drop_drop]
  rw [List.getElem?_eq_getElem hk] at hx
  injection hx with hx
  rw [← hx, List.take_succ_eq_append_getElem hk]
end

theorem mix_unif {s : Nat} {X Y : List (List Int)} (hX : Unif s X) (hY : Unif s Y) (k : Nat) : Unif s (mix X Y k) :=
  Unif.append (fun f hf => hX f (List.mem_of_mem_take hf)) (fun f hf => hY f (List.mem_of_mem_drop hf))

end Go.Proofs.Ytemjhdbmcdlpeaa

/- Walks: turnAll. -/
namespace Go.Proofs.Ytemjhdbmcdlpeaa
set_option linter.unusedSimpArgs false
set_option linter.unusedVariables false
open Go.RowKit Go.Shelf

theorem splW_nil (ws : List Int) (o : Nat) : splW ws o [] = ws := by simp [splW]

theorem splW_snoc {ws cs : List Int} {o : Nat} (h : o + cs.length < ws.length) (y : Int) : (splW ws o cs).set (o + cs.length) y = splW ws o (cs ++ [y]) := by
  unfold splW
  rw [← List.append_assoc, set_mid (by simp; omega) _ (by simp; omega), List.drop_drop]
  simp [Nat.add_assoc]

theorem splW_get {ws cs : List Int} {o : Nat} (h : o + cs.length < ws.length) : (splW ws o cs)[o + cs.length]? = ws[o + cs.length]? := by
  unfold splW
  rw [← List.append_assoc, List.getElem?_append_right (by simp; omega), List.getElem?_drop]
  congr 1
  simp; omega

set_option maxRecDepth 100000 in
set_option maxHeartbeats 2000000 in
theorem tall_c (a : Option Addr) (cap : Nat) (l : List Int) (fs : List (List Int)) (L : List Int) (s : Nat) (p : Nat → Bool) (N N2 mb pb t g o n c : Nat) (ws : List Int) (w : World) (hU : U64 l) (hok : ∀ x ∈ l, okW (stF 0 fs) x = true) (hu : Unif s fs) (hO : OOk fs L)
    (hpb : w.cell? ⟨pb, 0, none⟩ = some (.map (some mb))) (hM : WnM w N mb s p fs.length L.length t L) (hin : ∀ j : Nat, To fs l j → (j : Int) ∈ L ∧ p j = true)
    (hown : ∀ j : Nat, j < L.length → p j = true → L[j]? = some (j : Int)) (h256 : tot fs ≤ 256) (hpg : pb ≠ g) (hmg : mb ≠ g) (hll : l.length ≤ 256)
    (hrow : l ≠ [] → a = some ⟨g, o, none⟩ ∧ w.ownsRow N2 56 1 (.slice (some ⟨g, 0, none⟩) n c) n (wordsV ws) ∧ (ws.drop o).take l.length = l) :
    Calls Try.prog 40 #[.slice a l.length cap, .func (.func 42) #[] #[.pointer (some ⟨pb, 0, none⟩)]] w fun e w' => e = .returned (.tuple #[]) ∧ w.grownBy w' (some g) ∧ (l ≠ [] → w'.ownsRow N2 56 1 (.slice (some ⟨g, 0, none⟩) n c) n (wordsV (splW ws o (l.map (twW fs L))))) := by
  have HU := hide hU
  have Hok := hide hok
  have Hin := hide hin
  have HO := hide hO
  have Hu := hide hu
  have Hown := hide hown
  have HM := hide hM
  have Hpb := hide hpb
  have Hrow := hide hrow
  have hml := hM.lt
  have hpl : pb < w.heap.size := World.block_lt_of_cell? w _ hpb
  clear hU hok hin hO hu hown hM hpb hrow
  go_enter Try.func40, Try.ntmps40
  go_wp2
  go_loopw [8] (fun i wr => ∃ k : Nat, k ≤ l.length ∧ i = .int .i64 k ∧ Hid (w.grownBy wr (some g)) ∧ Hid (l ≠ [] → wr.ownsRow N2 56 1 (.slice (some ⟨g, 0, none⟩) n c) n (wordsV (splW ws o ((l.map (twW fs L)).take k))))) (fun i _ => l.length - (intOf i).toNat)
  case atStart => exact ⟨0, Nat.zero_le _, rfl, hide ⟨rfl, rfl, rfl, Nat.le_refl _, fun _ _ _ => rfl⟩, hide (fun h => by rw [List.take_zero, splW_nil]; exact (unhide Hrow h).2.1)⟩
  case round =>
    obtain ⟨k, hk, rfl, Hg, Hr⟩ := hrel
    by_cases hlt : k < l.length
    · have hne : l ≠ [] := by intro e; subst e; simp at hlt
      obtain ⟨rfl, hr0, hsub⟩ := unhide Hrow hne
      have hr := unhide Hr hne
      have hg := unhide Hg
      have hx := unhide HU _ (List.getElem_mem hlt)
      have hokx := unhide Hok _ (List.getElem_mem hlt)
      have hnw : ws.length = n := by obtain ⟨_, _, _, _, _, _, _, h⟩ := own_cur hr0; exact h
      have hcl : ((l.map (twW fs L)).take k).length = k := by simp; omega
      have hle : o + l.length ≤ n := by
        have := congrArg List.length hsub
        simp at this
        omega
      have hgk : ws[o + k]? = some l[k] := by
        have := congrArg (fun z => z[k]?) hsub
        simp only [List.getElem?_take, if_pos hlt, List.getElem?_drop] at this
        rw [this, List.getElem?_eq_getElem hlt]
      have hcell := own_cell hr (j := o + k) (x := l[k]) (by have := splW_get (ws := ws) (cs := (l.map (twW fs L)).take k) (o := o) (by omega); rw [hcl] at this; rw [this, hgk])
      have hc := hcell.1
      have hsz := hg.size
      have hgl : g < wr.heap.size := World.block_lt_of_cell? wr _ hc
      have hkI : (k : Int) < (l.length : Int) := by omega
      have Hc := hide (tw1_c l[k] fs L s p N mb pb t wr hx.1 hx.2 hokx (unhide Hu) (unhide HO) (hg.cell (unhide Hpb) (fun e => hpg (by injection e))) ((unhide HM).kept hg (fun e => hmg (by injection e))) (fun j h1 h2 => unhide Hin j ⟨_, List.getElem_mem hlt, h1, h2⟩) (unhide Hown) h256)
      have Hnew : Hid (∀ W : World, W.ownsRow N2 56 1 (.slice (some ⟨g, 0, none⟩) n c) n (wordsV (splW ws o ((l.map (twW fs L)).take k))) → (W.setCell ⟨g, o + k, none⟩ (.int .u64 (twW fs L l[k]))).ownsRow N2 56 1 (.slice (some ⟨g, 0, none⟩) n c) n (wordsV (splW ws o ((l.map (twW fs L)).take (k + 1))))) := fun W h => by
        have h1 := own_set h (o + k) (twW fs L l[k])
        have h2 := splW_snoc (ws := ws) (cs := (l.map (twW fs L)).take k) (o := o) (by omega) (twW fs L l[k])
        rw [hcl] at h2
        rw [h2] at h1
        rw [List.take_succ_eq_append_getElem (by simpa using hlt), List.getElem_map]
        exact h1
      clear hx hokx hcell hgk hr0 hsub
      generalize l[k] = x at *
      generalize twW fs L x = tw at *
      clear hcl hr hg
      go_wp2_with fail
      refine (unhide Hc).mono ?_
      rintro e w3 ⟨rfl, hb3⟩
      have hs3 := hb3.size
      have hr3 := ownsRow_below (unhide Hr hne) hb3
      have hx3 := (hb3.cell (p := ⟨g, o + k, none⟩) hgl).trans hc
      have hf3 : w3.frozen? ⟨g, o + k, none⟩ = false := by
        obtain ⟨cur, h1, _⟩ := own_cur hr3
        exact frozen_of_row _ _ _ _ _ h1
      have Hr4 := hide (unhide Hnew w3 hr3)
      have Hg4 := hide (gb_set (gb_below (unhide Hg) hb3) (.inl rfl) (o + k) (.int .u64 tw))
      have hgl3 : g < w3.heap.size := by omega
      clear Hnew hr3 Hg Hr hc Hc hb3
      go_wp2
      go_roundw
      case rel => exact ⟨k + 1, by omega, by go_num, Hg4, hide (fun _ => unhide Hr4)⟩
      case measure => simp [intOf]; omega
    · obtain rfl : k = l.length := by omega
      go_wp2
      refine bodyPost_end (v := .tuple #[]) (results_none rfl _ _ _) rfl ⟨rfl, unhide Hg, fun h => ?_⟩
      have := unhide Hr h
      rw [List.take_of_length_le (by simp)] at this
      exact this

end Go.Proofs.Ytemjhdbmcdlpeaa

/- Walks: settle. -/
namespace Go.Proofs.Ytemjhdbmcdlpeaa
set_option linter.unusedSimpArgs false
set_option linter.unusedVariables false
open Go.RowKit Go.Shelf

/-- All is as it was, but for two blocks. -/
structure Gb2 (w w' : World) (g1 g2 : Nat) : Prop where
  os : w'.os = w.os
  tape : w'.tape = w.tape
  output : w'.output = w.output
  size : w.heap.size ≤ w'.heap.size
  block : ∀ k, k < w.heap.size → k ≠ g1 → k ≠ g2 → w'.heap[k]? = w.heap[k]?

theorem Gb2.refl (w : World) (g1 g2 : Nat) : Gb2 w w g1 g2 := ⟨rfl, rfl, rfl, Nat.le_refl _, fun _ _ _ _ => rfl⟩
theorem Gb2.below {w W W' : World} {g1 g2 : Nat} (h : Gb2 w W g1 g2) (hb : Below W.heap.size W W') : Gb2 w W' g1 g2 :=
  ⟨hb.os.trans h.os, hb.tape.trans h.tape, hb.output.trans h.output, Nat.le_trans h.size hb.size, fun k h1 h2 h3 => (hb.block k (Nat.lt_of_lt_of_le h1 h.size)).trans (h.block k h1 h2 h3)⟩
theorem Gb2.grown {w W W' : World} {g1 g2 g : Nat} (h : Gb2 w W g1 g2) (hg : W.grownBy W' (some g)) (ho : g = g1 ∨ g = g2 ∨ w.heap.size ≤ g) : Gb2 w W' g1 g2 :=
  ⟨hg.os.trans h.os, hg.tape.trans h.tape, hg.output.trans h.output, Nat.le_trans h.size hg.size, fun k h1 h2 h3 => (hg.block k (Nat.lt_of_lt_of_le h1 h.size) (fun e => by injection e with e; omega)).trans (h.block k h1 h2 h3)⟩
theorem Gb2.cell {w W : World} {g1 g2 b j : Nat} (h : Gb2 w W g1 g2) (h1 : b ≠ g1) (h2 : b ≠ g2) {v : Value} (hv : w.cell? ⟨b, j, none⟩ = some v) : W.cell? ⟨b, j, none⟩ = some v :=
  (World.cell?_of_block (a := ⟨b, j, none⟩) (h.block b (World.block_lt_of_cell? w _ hv) h1 h2)).trans hv

theorem WnM.gb2 {W W' : World} {N mb s : Nat} {p : Nat → Bool} {n u t : Nat} {O : List Int} {g1 g2 : Nat} (h : WnM W N mb s p n u t O) (hg : Gb2 W W' g1 g2) (h1 : mb ≠ g1) (h2 : mb ≠ g2) : WnM W' N mb s p n u t O := by
  have hl := h.lt
  obtain ⟨M, ⟨es, clock, hb, hf⟩, hn, hd⟩ := h
  exact ⟨M, ⟨es, clock, (hg.block mb hl h1 h2).trans hb, hf⟩, hn, hd⟩

/-- What settle holds. -/
structure StI (W1 : World) (gw gr N2 nw cw cr : Nat) (ws rs : List Int) (wr : World) : Prop where
  g : Gb2 W1 wr gw gr
  row : ws ≠ [] → wr.ownsRow N2 56 1 (.slice (some ⟨gw, 0, none⟩) nw cw) nw (wordsV ws)
  roots : rs ≠ [] → wr.ownsRow N2 56 1 (.slice (some ⟨gr, 0, none⟩) rs.length cr) rs.length (wordsV rs)

theorem StI.below {W1 W W' : World} {gw gr N2 nw cw cr : Nat} {ws rs : List Int} (h : StI W1 gw gr N2 nw cw cr ws rs W) (hb : Below W.heap.size W W') : StI W1 gw gr N2 nw cw cr ws rs W' :=
  ⟨h.g.below hb, fun e => ownsRow_below (h.row e) hb, fun e => ownsRow_below (h.roots e) hb⟩

theorem StI.setO {W1 W : World} {gw gr N2 nw cw cr : Nat} {ws rs : List Int} (h : StI W1 gw gr N2 nw cw cr ws rs W) {b : Nat} (hb : W1.heap.size ≤ b) (h1 : b ≠ gw) (h2 : b ≠ gr) (j : Nat) (u : Value) : StI W1 gw gr N2 nw cw cr ws rs (W.setCell ⟨b, j, none⟩ u) := by
  have hg := grown_set W b j u
  exact ⟨h.g.grown hg (.inr (.inr hb)), fun e => (h.row e).kept hg (or_ne (by simp [Value.ownBlock]; omega)), fun e => (h.roots e).kept hg (or_ne (by simp [Value.ownBlock]; omega))⟩

/-- Words of the arena turn. -/
theorem StI.grown {W1 W W' : World} {gw gr N2 nw cw cr : Nat} {ws ws' rs : List Int} (h : StI W1 gw gr N2 nw cw cr ws rs W) (hg : W.grownBy W' (some gw)) (hwr : gw ≠ gr) (hr : ws' ≠ [] → W'.ownsRow N2 56 1 (.slice (some ⟨gw, 0, none⟩) nw cw) nw (wordsV ws')) : StI W1 gw gr N2 nw cw cr ws' rs W' :=
  ⟨h.g.grown hg (.inl rfl), hr, fun e => (h.roots e).kept hg (or_ne (by simp [Value.ownBlock]; omega))⟩

set_option maxRecDepth 100000 in
set_option maxHeartbeats 2000000 in
/-- turnAll on a part of an owned row. -/
theorem tpart_c (a : Option Addr) (cap : Nat) (l : List Int) (fs : List (List Int)) (L : List Int) (s : Nat) (p : Nat → Bool) (N N2 mb pb t g o n c : Nat) (ws : List Int) (w : World) (hU : U64 l) (hok : ∀ x ∈ l, okW (stF 0 fs) x = true) (hu : Unif s fs) (hO : OOk fs L)
    (hpb : w.cell? ⟨pb, 0, none⟩ = some (.map (some mb))) (hM : WnM w N mb s p fs.length L.length t L) (hin : ∀ j : Nat, To fs l j → (j : Int) ∈ L ∧ p j = true)
    (hown : ∀ j : Nat, j < L.length → p j = true → L[j]? = some (j : Int)) (h256 : tot fs ≤ 256) (hpg : pb ≠ g) (hmg : mb ≠ g) (hll : l.length ≤ 256)
    (hrow : w.ownsRow N2 56 1 (.slice (some ⟨g, 0, none⟩) n c) n (wordsV ws)) (ha : l ≠ [] → a = some ⟨g, o, none⟩) (hsub : (ws.drop o).take l.length = l) :
    Calls Try.prog 40 #[.slice a l.length cap, .func (.func 42) #[] #[.pointer (some ⟨pb, 0, none⟩)]] w fun e w' => e = .returned (.tuple #[]) ∧ w.grownBy w' (some g) ∧ w'.ownsRow N2 56 1 (.slice (some ⟨g, 0, none⟩) n c) n (wordsV (splW ws o (l.map (twW fs L)))) := by
  by_cases hl : l = []
  · have hpl : pb < w.heap.size := World.block_lt_of_cell? w _ hpb
    have hml := hM.lt
    refine (tall_c a cap l fs L s p N N2 mb pb t w.heap.size o n c ws w hU hok hu hO hpb hM hin hown h256 (by omega) (by omega) hll (fun h => absurd hl h)).mono ?_
    rintro e w' ⟨he, hg, _⟩
    have hgl : g < w.heap.size := (hrow.lt g rfl).2
    refine ⟨he, ⟨hg.os, hg.tape, hg.output, hg.size, fun k hk _ => hg.block k hk (fun e => by injection e with e; omega)⟩, ?_⟩
    subst hl
    rw [List.map_nil, splW_nil]
    exact hrow.kept hg (or_ne (by simp [Value.ownBlock]; omega))
  · refine (tall_c a cap l fs L s p N N2 mb pb t g o n c ws w hU hok hu hO hpb hM hin hown h256 hpg hmg hll (fun h => ⟨ha h, hrow, hsub⟩)).mono ?_
    rintro e w' ⟨he, hg, hr⟩
    exact ⟨he, hg, hr hl⟩

/-- What stands in the words while they are settled. -/
def setW (hs : List Int) (fs : List (List Int)) (L : List Int) (k : Nat) : List Int := joinW (mix (sH hs L) (L.map (rM hs)) k) (mix (sF fs L) (L.map (fO fs)) k)

section
variable {hs : List Int} {fs : List (List Int)} {rs L : List Int} {s : Nat}

theorem sF_unif (hu : Unif s fs) (hL : OOk fs L) : Unif s (sF fs L) := fun f hf => by
  unfold sF at hf
  obtain ⟨o, ho, rfl⟩ := List.mem_map.1 hf
  rw [List.length_map]
  exact hu.map hL.rng _ (List.mem_map.2 ⟨o, ho, rfl⟩)

theorem setW_len (hu : Unif s fs) (hL : OOk fs L) {k : Nat} (hk : k ≤ L.length) : (setW hs fs L k).length = L.length * s := by
  unfold setW
  have h1 := mix_len (X := sH hs L) (Y := L.map (rM hs)) (by simp [sH]) (k := k) (by rw [sH_len]; exact hk)
  have h2 := mix_len (X := sF fs L) (Y := L.map (fO fs)) (by simp [sF]) (k := k) (by rw [sF_len]; exact hk)
  rw [sH_len] at h1
  rw [sF_len] at h2
  rw [uj_len (by omega) (mix_unif (sF_unif hu hL) (hu.map hL.rng) k), h2]

theorem setW_zero (hs : List Int) (fs : List (List Int)) (L : List Int) : setW hs fs L 0 = joinW (L.map (rM hs)) (L.map (fO fs)) := by unfold setW; rw [mix_zero, mix_zero]

theorem setW_all (hs : List Int) (fs : List (List Int)) (L : List Int) : setW hs fs L L.length = joinW (sH hs L) (sF fs L) := by
  unfold setW
  have h1 := mix_all (X := sH hs L) (Y := L.map (rM hs)) (by simp [sH])
  have h2 := mix_all (X := sF fs L) (Y := L.map (fO fs)) (by simp [sF])
  rw [sH_len] at h1
  rw [sF_len] at h2
  rw [h1, h2]

/-- One object of them. -/
theorem setW_at (hF : Fit hs fs) (hu : Unif s fs) (hL : OOk fs L) {k : Nat} (hk : k < L.length) :
    ∃ (j : Nat) (y : Int), L[k] = (j : Int) ∧ ∃ hj : j < fs.length, hs[j]? = some y ∧ unheadOk y = true ∧ wlen y + 1 = s ∧ (setW hs fs L k)[k * s]? = some (reh true y) ∧
      (setW hs fs L k).set (k * s) (reh false y) = joinW (mix (sH hs L) (L.map (rM hs)) (k + 1)) (mix (sF fs L) (L.map (fO fs)) k) ∧
      (((setW hs fs L k).set (k * s) (reh false y)).drop (k * s + 1)).take fs[j].length = fs[j] ∧
      splW ((setW hs fs L k).set (k * s) (reh false y)) (k * s + 1) (fs[j].map (twW fs L)) = setW hs fs L (k + 1) := by
  have hr := hL.rng _ (List.getElem_mem hk)
  obtain ⟨j, hj⟩ := Int.eq_ofNat_of_zero_le hr.1
  have hjl : j < fs.length := by omega
  obtain ⟨y, hy, e1, e2, e3⟩ := rO_at hF hjl
  have hA0 : (sH hs L).length = (L.map (rM hs)).length := by simp [sH]
  have hB0 : (sF fs L).length = (L.map (fO fs)).length := by simp [sF]
  have hA : (mix (sH hs L) (L.map (rM hs)) k).length = L.length := by rw [mix_len hA0 (by rw [sH_len]; omega), sH_len]
  have hA' : (mix (sH hs L) (L.map (rM hs)) (k + 1)).length = L.length := by rw [mix_len hA0 (by rw [sH_len]; omega), sH_len]
  have hB : (mix (sF fs L) (L.map (fO fs)) k).length = L.length := by rw [mix_len hB0 (by rw [sF_len]; omega), sF_len]
  have hub : Unif s (mix (sF fs L) (L.map (fO fs)) k) := mix_unif (sF_unif hu hL) (hu.map hL.rng) k
  have hgB : (mix (sF fs L) (L.map (fO fs)) k)[k]? = some fs[j] := by
    rw [mix_get hB0 (by rw [sF_len]; omega), List.getElem?_map, List.getElem?_eq_getElem hk, hj, Option.map_some, fO_at hjl]
  have hset : (setW hs fs L k).set (k * s) (reh false y) = joinW (mix (sH hs L) (L.map (rM hs)) (k + 1)) (mix (sF fs L) (L.map (fO fs)) k) := by
    unfold setW
    rw [uj_set (hA.trans hB.symm) hub (by omega), mix_set hA0 (by rw [sH_len]; exact hk)]
    unfold sH
    rw [List.getElem?_map, List.getElem?_eq_getElem hk, hj, Option.map_some, e1]
  refine ⟨j, y, hj, hjl, hy, e2, by rw [e3]; exact hu.len hjl, ?_, hset, ?_, ?_⟩
  · unfold setW
    rw [uj_get (hA.trans hB.symm) hub (by omega), mix_get hA0 (by rw [sH_len]; omega), List.getElem?_map, List.getElem?_eq_getElem hk, hj, Option.map_some, rM_at hy]
  · rw [hset]
    exact uj_fields (hA'.trans hB.symm) hub (by omega) hgB
  · rw [hset, uj_fspl (hA'.trans hB.symm) hub (by omega) (by rw [List.length_map]; exact hu.len hjl)]
    unfold setW
    rw [mix_set hB0 (by rw [sF_len]; exact hk)]
    unfold sF
    rw [List.getElem?_map, List.getElem?_eq_getElem hk, hj, Option.map_some, fO_at hjl]

end

end Go.Proofs.Ytemjhdbmcdlpeaa

/- What fill holds. -/
namespace Go.Proofs.Ytemjhdbmcdlpeaa
set_option linter.unusedSimpArgs false
set_option linter.unusedVariables false
open Go.RowKit Go.Shelf

theorem gb_row {w W : World} {g : Nat} (h : w.grownBy W (some g)) (cs : Array Value) : w.grownBy (W.setRow g cs) (some g) := by
  have hg := grown_row (W := W) (g := g) (cs := cs)
  exact ⟨hg.os.trans h.os, hg.tape.trans h.tape, hg.output.trans h.output, Nat.le_trans h.size hg.size, fun k hk hne => (hg.block k (Nat.lt_of_lt_of_le hk h.size) hne).trans (h.block k hk hne)⟩

/-- The words, while holes are filled. -/
def fgW (hs : List Int) (fs : List (List Int)) (p : Nat → Bool) (i : Nat) : List Int := joinW (fgA hs p (fgP (mL p fs.length) i).1 i) (fgB fs (fgP (mL p fs.length) i).1 i)

structure FiS (w0 wr : World) (s : Nat) (hs : List Int) (fs : List (List Int)) (p : Nat → Bool) (gw N2 T cw i u : Nat) : Prop where
  fi : Fi p fs.length i u
  g : w0.grownBy wr (some gw)
  map : WnM wr w0.heap.size w0.heap.size s p fs.length u (fgP (mL p fs.length) i).2 (fgP (mL p fs.length) i).1
  row : fs ≠ [] → wr.ownsRow N2 56 1 (.slice (some ⟨gw, 0, none⟩) T cw) T (wordsV (fgW hs fs p i))

section
variable {w0 wr W : World} {s : Nat} {hs : List Int} {fs : List (List Int)} {p : Nat → Bool} {gw N2 T cw i u : Nat}

theorem FiS.below (h : FiS w0 wr s hs fs p gw N2 T cw i u) (hb : Below wr.heap.size wr W) : FiS w0 W s hs fs p gw N2 T cw i u :=
  ⟨h.fi, gb_below h.g hb, h.map.below hb, fun e => ownsRow_below (h.row e) hb⟩

theorem fgW_zero : fgW hs fs p 0 = mW hs fs p := by
  unfold fgW
  rw [show (fgP (mL p fs.length) 0).1 = [] from rfl, fgA_start, fgB_start]
  rfl

theorem fgO_rng (h : Fi p fs.length i u) : ∀ o ∈ (fgP (mL p fs.length) i).1, 0 ≤ o ∧ o < fs.length := fun o ho => by
  obtain ⟨j, rfl, _, h2, _⟩ := (h.mem o).1 ho
  omega

theorem FiS.keep (hF : Fit hs fs) (h : FiS w0 wr s hs fs p gw N2 T cw i u) (hi : i < u) (hp : p i = true) : FiS w0 wr s hs fs p gw N2 T cw (i + 1) u := by
  obtain ⟨e, hfi⟩ := h.fi.keep hi hp
  have hu := h.fi.un
  have hl := hF.len
  refine ⟨hfi, h.g, ?_, fun hne => ?_⟩
  · obtain ⟨M, h1, h2, h3, h4⟩ := h.map
    rw [e]
    exact ⟨M, h1, h2, h3.keep _, h4⟩
  · have := h.row hne
    unfold fgW at *
    rw [e]
    simp only
    rw [fgA_keep (by omega) hp, fgB_keep (by omega)]
    exact this

theorem FiS.down (h : FiS w0 wr s hs fs p gw N2 T cw i (u + 1)) (hi : i < u + 1) (hp : p u = false) : FiS w0 wr s hs fs p gw N2 T cw i u := by
  refine ⟨h.fi.down hi hp, h.g, ?_, h.row⟩
  obtain ⟨M, h1, h2, h3, h4⟩ := h.map
  exact ⟨M, h1, h2, h3.down hp, h4⟩

theorem fgAB (hF : Fit hs fs) (hu : Unif s fs) (h : Fi p fs.length i u) : (fgA hs p (fgP (mL p fs.length) i).1 i).length = fs.length ∧ (fgB fs (fgP (mL p fs.length) i).1 i).length = fs.length ∧ Unif s (fgB fs (fgP (mL p fs.length) i).1 i) := by
  have hl := hF.len
  have h1 := h.iu
  have h2 := h.un
  have h3 := fgP_len (mL p fs.length) i
  exact ⟨by rw [fgA_len h3 (by omega)]; omega, fgB_len h3 (by omega), fgB_unif hu (fgO_rng h) i⟩

theorem fgW_len (hF : Fit hs fs) (hu : Unif s fs) (h : Fi p fs.length i u) : (fgW hs fs p i).length = fs.length * s := by
  obtain ⟨h1, h2, h3⟩ := fgAB hF hu h
  unfold fgW
  rw [uj_len (h1.trans h2.symm) h3, h2]

/-- A header that has not been gone by. -/
theorem FiS.head (hF : Fit hs fs) (hu : Unif s fs) (h : FiS w0 wr s hs fs p gw N2 T cw i u) {j : Nat} (h1 : i ≤ j) (h2 : j < fs.length) : ∃ x, wr.cell? ⟨gw, j * s, none⟩ = some (.int .u64 x) ∧ 0 ≤ x ∧ x < 18446744073709551616 ∧ uhM x = p j := by
  obtain ⟨y, hy, e1, e2, e3⟩ := rO_at hF h2
  obtain ⟨h3, h4, h5⟩ := fgAB hF hu h.fi
  have hrx := reh_ok (p j) y
  have hne : fs ≠ [] := by intro e; rw [e] at h2; simp at h2
  refine ⟨reh (p j) y, (own_cell (h.row hne) ?_).1, hrx.2.2.2.2.1, hrx.2.2.2.2.2, hrx.2.2.1⟩
  unfold fgW
  rw [uj_get (h3.trans h4.symm) h5 (by omega), fgA_get (fgP_len _ _) h1, mkH_get, hy]
  rfl

/-- What is copied, and what stands there then. -/
theorem FiS.copy (hF : Fit hs fs) (hu : Unif s fs) (hs1 : 1 ≤ s) (hT : T = fs.length * s) (h : FiS w0 wr s hs fs p gw N2 T cw i (u + 1)) (hi : i < u + 1) (hp : p i = false) (hq : p u = true) :
    ∃ cs : List Int, cs.length = s ∧ (∀ j v, (wordsV cs)[j]? = some v → wr.cell? ((⟨gw, u * s, none⟩ : Addr).add j) = some v) ∧ (∃ cur, wr.heap[gw]? = some (.cells cur 56 (0, 0)) ∧ i * s + s ≤ cur.size ∧ (wr.setRow gw (cur.toList.take (i * s) ++ wordsV cs ++ cur.toList.drop (i * s + (wordsV cs).length)).toArray).ownsRow N2 56 1 (.slice (some ⟨gw, 0, none⟩) T cw) T (wordsV (fgW hs fs p (i + 1)))) := by
  obtain ⟨hiu, e, hfi⟩ := h.fi.swap hi hp hq
  have hun := h.fi.un
  have hl := hF.len
  have hul : u < fs.length := by omega
  obtain ⟨h3, h4, h5⟩ := fgAB hF hu h.fi
  obtain ⟨y, hy, e1, e2, e3⟩ := rO_at hF hul
  have hne : fs ≠ [] := by intro e; rw [e] at hul; simp at hul
  have hr := h.row hne
  have hA : (fgA hs p (fgP (mL p fs.length) i).1 i)[u]? = some (rM hs (u : Int)) := by rw [fgA_get (fgP_len _ _) (by omega), mkH_get, hy, rM_at hy, hq]; rfl
  have hB : (fgB fs (fgP (mL p fs.length) i).1 i)[u]? = some (fO fs (u : Int)) := by rw [fgB_get (fgP_len _ _) (by omega), fO_at hul, List.getElem?_eq_getElem hul]
  have hobj := uj_obj (h3.trans h4.symm) h5 (by omega) hA hB
  have hfl : (fO fs (u : Int)).length + 1 = s := by rw [fO_at hul]; exact hu.len hul
  have hsp := uj_spl (h3.trans h4.symm) h5 (k := i) (by omega) (rM hs (u : Int)) hfl
  rw [fgA_swap (fgP_len _ _) (by omega), fgB_swap (fgP_len _ _) (by omega)] at hsp
  have hnew : fgW hs fs p (i + 1) = splW (fgW hs fs p i) (i * s) (rM hs (u : Int) :: fO fs (u : Int)) := by
    have : fgW hs fs p (i + 1) = joinW (fgA hs p ((fgP (mL p fs.length) i).1 ++ [(u : Int)]) (i + 1)) (fgB fs ((fgP (mL p fs.length) i).1 ++ [(u : Int)]) (i + 1)) := by unfold fgW; rw [e]
    rw [this, ← hsp]
    rfl
  obtain ⟨cur, c1, c2, c3, c4, c5, c6, c7⟩ := own_cur hr
  have hle : (i + 1) * s ≤ fs.length * s := Nat.mul_le_mul_right s (by omega)
  rw [Nat.succ_mul] at hle
  refine ⟨rM hs (u : Int) :: fO fs (u : Int), by simp; omega, fun j v hj => ?_, cur, c1, by omega, ?_⟩
  · have hadd : (⟨gw, u * s, none⟩ : Addr).add j = ⟨gw, u * s + j, none⟩ := by unfold Addr.add; split <;> simp_all
    rw [hadd]
    simp only [wordsV, List.getElem?_map, Option.map_eq_some_iff] at hj
    obtain ⟨x, hx, rfl⟩ := hj
    refine (own_cell hr ?_).1
    rw [← hobj, List.getElem?_take] at hx
    split at hx
    · rw [List.getElem?_drop] at hx; exact hx
    · cases hx
  · rw [hnew]
    exact own_spl hr (by simp; omega) c1

/-- One object went. -/
theorem FiS.swap {W2 : World} (hs1 : 1 ≤ s) (hgm : gw ≠ w0.heap.size) (h : FiS w0 wr s hs fs p gw N2 T cw i (u + 1)) (hi : i < u + 1) (hp : p i = false) (hq : p u = true) {cs : Array Value} (h2 : W2 = wr.setRow gw cs)
    (hr : W2.ownsRow N2 56 1 (.slice (some ⟨gw, 0, none⟩) T cw) T (wordsV (fgW hs fs p (i + 1)))) :
    ∃ M : DataW Unit, W2.ownsMap Try.prog 3 (plainElem Try.prog 3) w0.heap.size (fgP (mL p fs.length) i).2 M ∧ ∀ w1, w1.ownsMap Try.prog 3 (plainElem Try.prog 3) w0.heap.size ((fgP (mL p fs.length) i).2 + 1) (M.put (.int .i64 (u * s : Nat)) (.lit (.int .i64 ((i * s : Nat) : Int)))) → W2.grownBy w1 (some w0.heap.size) → FiS w0 w1 s hs fs p gw N2 T cw (i + 1) u := by
  obtain ⟨hiu, e, hfi⟩ := h.fi.swap hi hp hq
  have hun := h.fi.un
  have hm2 : WnM W2 w0.heap.size w0.heap.size s p fs.length (u + 1) (fgP (mL p fs.length) i).2 (fgP (mL p fs.length) i).1 := by
    rw [h2]; exact h.map.kept grown_row (fun e => hgm (by injection e with e; exact e.symm))
  obtain ⟨M, h3, h4, h5, h6⟩ := hm2
  refine ⟨M, h3, fun w1 hm hg => ⟨hfi, ?_, ?_, fun _ => hr.kept hg (or_ne (by simp [Value.ownBlock]; exact hgm))⟩⟩
  · refine gb_grown (W := W2) ?_ hg (fun k e => by injection e with e; omega)
    rw [h2]; exact gb_row h.g cs
  · rw [e]
    have hz : Maps.size (M.put (.int .i64 (u * s : Nat)) (.lit (.int .i64 ((i * s : Nat) : Int)))) = (fgP (mL p fs.length) i).2 + 1 := by
      rw [Maps.size_put (h3.tidy (Maps.int_keyed Try.underlying3)), (h5 u (by omega)).1, h6]
      simp
    refine ⟨_, hm, Nat.le_refl _, ?_, hz⟩
    have hp := h5.put hs1 h3.isMap (by omega) hq (fun hm => by obtain ⟨j, e2, _, _, h7⟩ := (h.fi.mem _).1 hm; omega)
    rw [fgP_len] at hp
    exact hp

end

end Go.Proofs.Ytemjhdbmcdlpeaa
