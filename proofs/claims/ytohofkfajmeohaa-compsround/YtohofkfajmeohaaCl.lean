/- Walks: order. -/
import Derived.Test.YtohofkfajmeohaaProg
import Derived.Test.YtohofkfajmeohaaMem
import Derived.Test.YtohofkfajmeohaaCk
namespace Go.Proofs.Ytohofkfajmeohaa
set_option linter.unusedSimpArgs false
set_option linter.unusedVariables false
open Go.RowKit

theorem Led.kept30 {W W' : World} {base b : Nat} {v v' : Value} {ms : List Nat} {Ks : List (List Int)} {n : Nat} {xs : List Value} (h : Led W base v ms Ks) (hr : W.ownsRow b 30 1 v' n xs) (hg : W.grownBy W' v'.ownBlock) : Led W' base v ms Ks := by
  rcases hr.2 with ⟨rfl, _⟩ | ⟨g', cap', cur', rfl, _, hgb', _⟩
  · exact h.own hg (own_none _) (fun r e => by simp [Value.ownBlock] at e)
  · refine h.own hg ?_ (fun r e hm => ?_)
    · rcases h.row.2 with ⟨rfl, _⟩ | ⟨g, cap, cur, rfl, _, hgb, _⟩
      · exact .inl rfl
      · refine .inr fun e => ?_
        simp [Value.ownBlock] at e
        subst e
        rw [hgb] at hgb'
        simp at hgb'
    · simp [Value.ownBlock] at e
      subst e
      obtain ⟨_, _, _, hs⟩ := h.at' hm
      obtain ⟨es, clock, hb⟩ := hs.block
      rw [hgb'] at hb
      cases hb

theorem row30_kept {W W' : World} {b m : Nat} {v : Value} {n : Nat} {xs : List Value} (h : W.ownsRow b 30 1 v n xs) {es : Array MapEntry} {cl : Nat} (hm : W.heap[m]? = some (.map es cl)) (hg : W.grownBy W' (some m)) : W'.ownsRow b 30 1 v n xs := by
  refine h.kept hg ?_
  rcases h.2 with ⟨rfl, _⟩ | ⟨g, cap, cur, rfl, _, hgb, _⟩
  · exact .inl rfl
  · refine .inr fun e => ?_
    simp [Value.ownBlock] at e
    subst e
    rw [hgb] at hm
    cases hm

theorem LRow.keptMap {W W' : World} {b m : Nat} {v : Value} {cs : List Sl} {LL : List (List Int)} (h : LRow W b v cs LL) {es : Array MapEntry} {cl : Nat} (hm : W.heap[m]? = some (.map es cl)) (hg : W.grownBy W' (some m)) : LRow W' b v cs LL :=
  ⟨row30_kept h.row hm hg, h.len, fun k s l hs hl => ints_kept (h.each k s l hs hl) hg (noInts_map hm)⟩

def lenOf : Value → Nat
  | .slice _ n _ => n
  | _ => 0

theorem heads_get {g : Gr} {os : List Int} (hr : ∀ o ∈ os, (0 ≤ o ∧ o < g.objs.length) ∧ isHead g o = true) {k : Nat} {l : List Int} (hl : (os.map (compL g))[k]? = some l) : ∃ o, os[k]? = some o ∧ l = compL g o ∧ l[0]? = some ((o.toNat : Nat) : Int) ∧ 0 ≤ o ∧ o < g.objs.length := by
  rw [List.getElem?_map] at hl
  cases ho : os[k]? with
  | none => rw [ho] at hl; cases hl
  | some o =>
    rw [ho] at hl
    injection hl with hl
    have h := hr o (List.mem_of_getElem? ho)
    have hh := head_get h.1.1 h.1.2
    have he : headOf g o = o := by simpa [isHead] using h.2
    refine ⟨o, rfl, hl.symm, ?_, h.1⟩
    rw [← hl, hh, he]
    congr 1
    omega

set_option maxRecDepth 100000 in
set_option maxHeartbeats 8000000 in
theorem order_c (ao ar al : Option Addr) (no co nr cr nl cl : Nat) (g : Gr) (base br B : Nat) (ms : List Nat) (v : Value) (cs : List Sl) (w : World) (hL : Led w base (.slice al nl cl) ms (ledK g g.objs.length)) (hR : LRow w br v cs (compsK g g.objs.length)) (hG : Good g)
    (hbr : br ≤ w.heap.size) (hB1 : B ≤ base) (hB2 : B ≤ br) :
    Calls Try.prog 22 #[.agg #[.slice ao no co, .slice ar nr cr, .slice al nl cl], v] w fun e w' => ∃ v' cs', e = .returned v' ∧ LRow w' br v' cs' (outF g) ∧ Below B w w' := by
  obtain ⟨i0, hi, hz0, hz1, hz2⟩ := info_parts Try.info30
  have hn24 := hG.n24
  obtain ⟨H0, hH0⟩ : ∃ H0, H0 = (nums g.objs.length).filter (isHead g) := ⟨_, rfl⟩
  have hLL : compsK g g.objs.length = H0.map (compL g) := by rw [hH0]; rfl
  have hHr : Hid (∀ o ∈ H0, (0 ≤ o ∧ o < g.objs.length) ∧ isHead g o = true) := fun o ho => by rw [hH0, List.mem_filter, mem_nums] at ho; exact ho
  have hHn : Hid H0.Nodup := by have := rest_nodup g 0; rw [rest_zero, ← hH0] at this; exact this
  have hHz : Hid (restN g 0 = H0) := by rw [rest_zero, ← hH0]; exact rfl
  have hHl : H0.length ≤ 24 := by rw [hH0, ← rest_zero]; have := rest_len g 0; omega
  have hcsl : cs.length = H0.length := by rw [← hR.len, hLL, List.length_map]
  rw [hLL] at hR
  clear hH0 hLL
  have hb0 := (Below.refl w.heap.size w).alloc (Nat.le_refl _) (.cells #[.slice ao no co, .slice ar nr cr, .slice al nl cl] 47)
  have hX0 : SBox (w.alloc (.cells #[.slice ao no co, .slice ar nr cr, .slice al nl cl] 47)) w.heap.size ao ar no co nr cr (.slice al nl cl) := ⟨by simp [go_sem], by simp [go_sem], by simp [go_sem], by simp [go_sem]⟩
  have Hmlt : Hid (∀ m ∈ ms, m < w.heap.size) := fun m hm => by obtain ⟨_, _, _, hs⟩ := hL.at' hm; exact hs.lt
  have hvlt : ∀ b, v.ownBlock = some b → b < w.heap.size := fun b e => (hR.row.lt b e).2
  have hP0 : Pass g.objs.length 0 H0 (ledL g) (compL g) (ledK g g.objs.length) := ⟨ledK_len g _, fun j o ho => by
    have := unhide hHr o (List.mem_of_getElem? ho)
    have hlt : o.toNat < g.objs.length := by omega
    have he : ((o.toNat : Nat) : Int) = o := by omega
    simp [ledK, nums, List.getElem?_map, List.getElem?_range hlt, he]⟩
  obtain ⟨va, vc, rfl⟩ := ownsRow_slice hR.row
  have Hcsl := hide hcsl
  have hcs24 : cs.length ≤ 24 := by omega
  clear hcsl
  go_enter Try.func22, Try.ntmps22
  go_wp2
  generalize hW : w.alloc (.cells #[.slice ao no co, .slice ar nr cr, .slice al nl cl] 47) = W0 at *
  have hs0 : W0.heap.size = w.heap.size + 1 := by rw [← hW]; simp
  clear hW
  go_loopw [14] (fun i wr => ∃ k : Nat, k ≤ cs.length ∧ i = .int .i64 k ∧ LRow wr br (.slice va cs.length vc) cs (H0.map (compL g)) ∧ (∃ Ks, Led wr base (.slice al nl cl) ms Ks ∧ Pass g.objs.length k H0 (ledL g) (compL g) Ks) ∧ SBox wr w.heap.size ao ar no co nr cr (.slice al nl cl) ∧ W0.heap.size ≤ wr.heap.size ∧ Below B w wr) (fun i _ => cs.length - (intOf i).toNat)
  case atStart => exact ⟨0, Nat.zero_le _, rfl, hR.below hb0, ⟨_, hL.below hb0, hP0⟩, hX0, Nat.le_refl _, hb0.mono (by omega)⟩
  case round =>
    obtain ⟨k, hk, rfl, hRr, ⟨Ks, hLr, hP⟩, hX, hsr, hbB⟩ := hrel
    by_cases hlt : k < cs.length
    · have hlk : (H0.map (compL g))[k]? = some ((H0.map (compL g))[k]'(by rw [List.length_map, ← unhide Hcsl]; exact hlt)) := List.getElem?_eq_getElem _
      obtain ⟨o, ho, hle, hl0, ho0, ho1⟩ := heads_get (unhide hHr) hlk
      rw [hle] at hlk hl0
      obtain ⟨g1, cap1, a1, c1, hv1, hs1, hc1, hg1, hrow1⟩ := hRr.get hlk
      injection hv1 with e1 e2 e3
      subst e1 e3
      have hKo := hP.at' k o ho
      rw [if_neg (Nat.lt_irrefl k)] at hKo
      have hcl : (compL g o).length ≤ g.objs.length := compK_len g o g.objs.length
      have HD := hide (drop_c ao ar al no co nr cr nl cl base br br ms Ks (ledL g o) (compL g o) (compL g o) o.toNat _ _ wr hLr hKo (led_nodup hG o) hrow1 hl0 hrow1 (fun x hx => by have := (mem_comp.1 hx).1; omega) (by rw [hP.len]; omega) (by omega))
      have hx0 := hX.c0
      have hx1 := hX.c1
      have hx2 := hX.c2
      clear hKo hl0 hle hlk hs1 e2
      obtain ⟨lo, hlo⟩ : ∃ lo, (compL g o).length = lo := ⟨_, rfl⟩
      rw [hlo] at hc1 HD
      clear hlo
      go_wp2_with fail
      refine (unhide HD).mono ?_
      rintro e wa ⟨rfl, m, hm, hLa, hga⟩
      obtain ⟨_, _, _, hsm⟩ := hLr.at' (List.mem_of_getElem? hm)
      obtain ⟨es, clk, hblk⟩ := hsm.block
      have hm1 := unhide Hmlt m (List.mem_of_getElem? hm)
      have hm2 := hL.ge m (List.mem_of_getElem? hm)
      have hsa := hga.size
      have hHr' : ∀ o ∈ H0, 0 ≤ o ∧ o < (g.objs.length : Int) := fun o ho => (unhide hHr o ho).1
      have hPa := hP.step (unhide hHn) hHr' ho
      have Hm := hide hm
      have Ho := hide ho
      clear hm ho hHr'
      go_wp2
      go_roundw
      case rel => exact ⟨k + 1, by omega, by go_num, hRr.keptMap hblk hga, ⟨_, hLa, hPa⟩, hX.kept (hga.block _ (by omega) (fun e => by injection e; omega)), by omega, hbB.grown hga (by omega) (fun q e => by injection e; omega)⟩
      case measure => simp [intOf]; omega
    · obtain rfl : k = cs.length := by omega
      have hK0 : Ks.length = g.objs.length ∧ ∀ o ∈ restN g 0, Ks[o.toNat]? = some (remK g 0 o) := by
        refine ⟨hP.len, fun o ho => ?_⟩
        rw [unhide hHz] at ho
        obtain ⟨j, hj⟩ := List.getElem?_of_mem ho
        have hjl := (List.getElem?_eq_some_iff.1 hj).1
        have := hP.at' j o hj
        rw [if_pos (by rw [unhide Hcsl]; exact hjl)] at this
        rw [this, rem_zero]
      have hR0 : LRow wr br (.slice va cs.length vc) cs ((restN g 0).map (compL g)) := by rw [unhide hHz]; exact hRr
      clear hP hRr hP0 hHr hHn hHz Hcsl hR hlt
      go_wp2
      go_loopw [1, 7] (fun vr vl wr => ∃ k : Nat, (outN g k).length = k ∧ (∃ csr, LRow wr br vr csr ((restN g k).map (compL g))) ∧ (∃ csl, LRow wr br vl csl (outN g k)) ∧ (∃ Ks, Led wr base (.slice al nl cl) ms Ks ∧ Ks.length = g.objs.length ∧ ∀ o ∈ restN g k, Ks[o.toNat]? = some (remK g k o)) ∧
        ((∀ b, vr.ownBlock = some b → b < w.heap.size) ∧ ∀ b, vl.ownBlock = some b → w.heap.size < b) ∧ SBox wr w.heap.size ao ar no co nr cr (.slice al nl cl) ∧ W0.heap.size ≤ wr.heap.size ∧ Below B w wr) (fun vr _ _ => lenOf vr)
      case atStart => exact ⟨0, rfl, ⟨cs, hR0⟩, ⟨[], lrow_nil _ _⟩, ⟨Ks, hLr, hK0⟩, ⟨hvlt, fun b e => by simp [Value.ownBlock] at e⟩, hX, hsr, hbB⟩
      case round =>
        clear hK0 hR0 hLr hX hsr hbB hvlt
        obtain ⟨k, hkl, ⟨csr, hRr⟩, ⟨csl, hRl⟩, ⟨Ks, hLr, hKl, hKs⟩, ⟨hvr, hvl⟩, hX, hsr, hbB⟩ := hrel
        obtain ⟨va, vc, rfl⟩ := ownsRow_slice hRr.row
        obtain ⟨la, lc, rfl⟩ := ownsRow_slice hRl.row
        have hrl : csr.length = (restN g k).length := by rw [← hRr.len, List.length_map]
        have hr24 := rest_len g k
        have hll : csl.length = k := by rw [← hRl.len]; exact hkl
        have hk24 : k ≤ 24 := by have h1 := outs_le (outN_ok hG k); have h2 := flat_len (outN_ok hG k); omega
        have Hkl := hide hkl
        have Hrl := hide hrl
        have Hll := hide hll
        have hcr24 : csr.length ≤ 24 := by omega
        have hcl24 : csl.length ≤ 24 := by omega
        clear hkl hll
        by_cases hlt : 0 < csr.length
        · obtain ⟨a0, o0, ha0, hz0'⟩ := rest_some hG k (by omega)
          have hHd : ∀ o ∈ restN g k, (0 ≤ o ∧ o < g.objs.length) ∧ isHead g o = true := fun o ho => ⟨(mem_rest.1 ho).1, (mem_rest.1 ho).2.1⟩
          have HI := hide (indexOf_c ao ar al no co nr cr nl cl base br ms Ks _ csr ((restN g k).map (compL g)) (fun j => remK g k ((restN g k)[j]?.getD 0)) wr hLr hRr (fun j l hl => by
            obtain ⟨o, ho, hle, hl0, ho0, ho1⟩ := heads_get hHd hl
            refine ⟨o.toNat, hl0, ?_⟩
            rw [hKs o (List.mem_of_getElem? ho), ho]
            rfl) (by omega) (by rw [List.length_map]; omega) ⟨a0, by rw [List.length_map]; exact (List.getElem?_eq_some_iff.1 ha0).1, by rw [ha0]; exact hz0'⟩)
          have hx0 := hX.c0
          have hx1 := hX.c1
          have hx2 := hX.c2
          clear ha0 hz0'
          have hrl24 : (restN g k).length ≤ 24 := by omega
          have hrlt : 0 < (restN g k).length := by omega
          have HKs := hide hKs
          have HHd := hide hHd
          have Hvr := hide hvr
          have Hvl := hide hvl
          clear hrl hKs hHd hvr hvl
          go_wp2_with fail
          refine (unhide HI).mono ?_
          rintro e wa ⟨a, rfl, hal, hfa, hfm, hba⟩
          rw [List.length_map] at hal
          have hoa : (restN g k)[a]? = some (restN g k)[a] := List.getElem?_eq_getElem hal
          obtain ⟨q, hq⟩ : ∃ q, (restN g k)[a] = q := ⟨_, rfl⟩
          rw [hq] at hoa
          have hqm := unhide HHd q (List.mem_of_getElem? hoa)
          have hnx := next_at hoa (by have := hfa; simp only [hoa, Option.getD_some] at this; exact this) (fun j p hj hp => by have := hfm j hj; simp only [hp, Option.getD_some] at this; exact this)
          have HN := hide hnx
          have Hoa := hide hoa
          have hlc : ((restN g k).map (compL g))[a]? = some (compL g q) := by rw [List.getElem?_map, hoa]; rfl
          have hRa := hRr.below hba
          have hRla := hRl.below hba
          have hLa := hLr.below hba
          have hsa := hba.size
          have hXa := hX.kept (hba.block _ (by omega))
          obtain ⟨g1, cap1, a1, c1, hv1, hs1, hc1, hg1, hrow1⟩ := hRa.get hlc
          injection hv1 with e1 e2 e3
          subst e1 e3
          have hacl : a < csr.length := by rw [unhide Hrl]; exact hal
          have Hlc := hide hlc
          have Hs1 := hide hs1
          have hql : (compL g q).length ≤ g.objs.length := compK_len g q g.objs.length
          have hg1w := unhide Hvr g1 rfl
          have Hfa := hide hfa
          have Hfm := hide hfm
          have Hqm := hide hqm
          clear hqm hfa hfm hq hnx hoa hlc hs1 e2 HI hx0 hx1 hx2 hRr hRl hLr
          go_wp2_with (at_builtin; go_must (refine wpList_append_own_at _ rfl _ _ 26 rfl br 30 i0 _ 1 24 Try.underlying26 hi hz0 hz1 hz2 rfl (by decide) _ _ _ rfl (hRla.row.alloc _) ⟨wa.heap.size, 0, none⟩ 1 1 [.slice a1 (compL g q).length c1] rfl rfl (cell_one_at _ _ _ _ (by simp)) (by simp [Value.oneCell']) (by simp only [maxLen]; omega) (by omega) (by simp; omega) ?_); intro vl' wb hrowb hgb _ hatb)
          have hal1 := (Below.refl wa.heap.size wa).alloc (Nat.le_refl _) (.cells #[.slice a1 (compL g q).length c1] 30)
          have hsb := hgb.size
          simp only [World.size_alloc] at hsb hatb
          have hvl' : ∀ b, vl'.ownBlock = some b → w.heap.size < b := fun b e => by
            rcases hatb with h | h
            · exact unhide Hvl b (h ▸ e)
            · rw [h] at e; injection e; omega
          have hno := noInts_row (hRla.row.alloc (.cells #[.slice a1 (compL g q).length c1] 30))
          have hRb : LRow wb br (.slice (some ⟨g1, 0, none⟩) csr.length vc) csr ((restN g k).map (compL g)) := (hRa.below hal1).own hgb (.inr fun e => by have := unhide Hvl g1 e.symm; omega) hno
          have hRlb := LRow.snoc (s := (a1, (compL g q).length, c1)) (hRla.below hal1) (hrow1.alloc _) hrowb hgb
          have hLb := (hLa.below hal1).kept30 (hRla.row.alloc _) hgb
          have hXb := (hXa.kept (hal1.block _ (by omega))).kept (hgb.block w.heap.size (by simp; omega) (fun e => by have := unhide Hvl _ e.symm; omega))
          have hbBb : Below B w wb := ((hbB.trans (hba.mono (by have := hbB.size; omega))).alloc (by omega) _).grown hgb (by simp; omega) (fun b e => by have := unhide Hvl _ e; omega)
          have hel : (csr.eraseIdx a).length = csr.length - 1 := by rw [List.length_eraseIdx, if_pos hacl]
          have HR2 : Hid (((restN g k).map (compL g)).eraseIdx a = (restN g (k + 1)).map (compL g)) := by
            show _ = _
            rw [rest_succ hG (unhide Hoa) (unhide HN)]
            simp [List.eraseIdx_eq_take_drop_succ, List.map_append, List.map_take, List.map_drop]
          refine (delete_c g1 vc a br csr _ wb hRb hacl (by omega)).mono ?_
          rintro e wc ⟨rfl, hRc, hgc⟩
          rw [unhide HR2] at hRc
          have hsc := hgc.size
          have hRlc := hRlb.own hgc (by cases hv : vl'.ownBlock with | none => exact .inl rfl | some b => exact .inr (fun e => by have := hvl' b hv; injection e; omega)) (noInts_row hRb.row)
          have hLc := hLb.kept30 hRb.row hgc
          have hXc := hXb.kept (hgc.block _ (by omega) (fun e => by injection e; omega))
          have hbBc : Below B w wc := hbBb.grown hgc (by omega) (fun b e => by injection e with e; have := (hRb.row.lt g1 rfl).1; omega)
          have hcame := hRlc.each csl.length (a1, (compL g q).length, c1) (compL g q) (by simp) (by rw [← hRla.len]; simp)
          have hout : outN g k ++ [compL g q] = outN g (k + 1) := (out_succ (unhide HN)).symm
          rw [hout] at hRlc
          have hml2 : csr.length - 1 ≤ 24 := by omega
          rw [← hel] at hRc
          rw [← hel]
          have Hel := hide hel
          clear hel hout hRb hRlb hLb hXb hbBb HR2 hrowb hgb hRa hRla hLa hXa hno hatb
          generalize csr.eraseIdx a = csr2 at *
          generalize csl ++ [(a1, (compL g q).length, c1)] = csl2 at *
          have hcr2 : csr2.length ≤ 24 := by rw [unhide Hel]; exact hml2
          have hr2l : csr2.length = (restN g (k + 1)).length := by rw [← hRc.len, List.length_map]
          have Hr2l := hide hr2l
          have hPc : Pass g.objs.length 0 (restN g (k + 1)) (remK g k) (fun _ => compL g q) Ks := ⟨hKl, fun j o ho => by
            rw [if_neg (by omega)]
            refine unhide HKs o ?_
            have hm := mem_rest.1 (List.mem_of_getElem? ho)
            refine mem_rest.2 ⟨hm.1, hm.2.1, fun hc => hm.2.2 ?_⟩
            rw [out_succ (unhide HN)]
            simp [hc]⟩
          clear hr2l
          go_wp2
          go_loopw [45] (fun i wr => ∃ j : Nat, j ≤ csr2.length ∧ i = .int .i64 j ∧ LRow wr br (.slice (some ⟨g1, 0, none⟩) csr2.length vc) csr2 ((restN g (k + 1)).map (compL g)) ∧ LRow wr br vl' csl2 (outN g (k + 1)) ∧ wr.ownsRow br 3 1 (.slice a1 (compL g q).length c1) (compL g q).length (intsV (compL g q)) ∧ (∃ Ks, Led wr base (.slice al nl cl) ms Ks ∧ Pass g.objs.length j (restN g (k + 1)) (remK g k) (fun _ => compL g q) Ks) ∧ SBox wr w.heap.size ao ar no co nr cr (.slice al nl cl) ∧ W0.heap.size ≤ wr.heap.size ∧ Below B w wr) (fun i _ => csr2.length - (intOf i).toNat)
          case atStart => exact ⟨0, Nat.zero_le _, rfl, hRc, hRlc, hcame, ⟨Ks, hLc, hPc⟩, hXc, by omega, hbBc⟩
          case round =>
            clear hRc hRlc hcame hLc hPc hXc hbBc
            obtain ⟨j, hj, rfl, hR3, hRl3, hcm3, ⟨Ks3, hL3, hP3⟩, hX3, hs3, hb3⟩ := hrel
            by_cases hlt3 : j < csr2.length
            · have hHd2 : ∀ o ∈ restN g (k + 1), (0 ≤ o ∧ o < g.objs.length) ∧ isHead g o = true := fun o ho => ⟨(mem_rest.1 ho).1, (mem_rest.1 ho).2.1⟩
              have hlk : ((restN g (k + 1)).map (compL g))[j]? = some (((restN g (k + 1)).map (compL g))[j]'(by rw [List.length_map, ← unhide Hr2l]; exact hlt3)) := List.getElem?_eq_getElem _
              obtain ⟨o, ho, hle, hl0, ho0, ho1⟩ := heads_get hHd2 hlk
              rw [hle] at hlk hl0
              obtain ⟨g4, cap4, a4, c4, hv4, hs4, hc4, hg4, hrow4⟩ := hR3.get hlk
              injection hv4 with e1 e2 e3
              injection e1 with e1
              injection e1 with e1
              subst e1 e3
              have hKo := hP3.at' j o ho
              rw [if_neg (Nat.lt_irrefl j)] at hKo
              have hcl : (compL g o).length ≤ g.objs.length := compK_len g o g.objs.length
              have HD := hide (drop_c ao ar al no co nr cr nl cl base br br ms Ks3 (remK g k o) (compL g o) (compL g q) o.toNat _ _ wr hL3 hKo (remK_nodup hG k o) hrow4 hl0 hcm3 (fun x hx => by have := (mem_comp.1 hx).1; omega) (by rw [hP3.len]; omega) (by omega))
              have hx0 := hX3.c0
              have hx1 := hX3.c1
              have hx2 := hX3.c2
              have hPa := hP3.step (rest_nodup g (k + 1)) (fun o ho => (hHd2 o ho).1) ho
              clear hKo hl0 hle hlk hs4 e2 hHd2 ho
              obtain ⟨lo, hlo⟩ : ∃ lo, (compL g o).length = lo := ⟨_, rfl⟩
              rw [hlo] at hc4 HD
              clear hlo
              go_wp2_with fail
              refine (unhide HD).mono ?_
              rintro e wd ⟨rfl, m, hm, hLd, hgd⟩
              obtain ⟨_, _, _, hsm⟩ := hL3.at' (List.mem_of_getElem? hm)
              obtain ⟨es, clk, hblk⟩ := hsm.block
              have hm1 := unhide Hmlt m (List.mem_of_getElem? hm)
              have hm2 := hL.ge m (List.mem_of_getElem? hm)
              have hsd := hgd.size
              clear hm
              go_wp2
              go_roundw
              case rel => exact ⟨j + 1, by omega, by go_num, hR3.keptMap hblk hgd, hRl3.keptMap hblk hgd, ints_kept hcm3 hgd (noInts_map hblk), ⟨_, hLd, hPa⟩, hX3.kept (hgd.block _ (by omega) (fun e => by injection e; omega)), by omega, hb3.grown hgd (by omega) (fun q e => by injection e; omega)⟩
              case measure => simp [intOf]; omega
            · obtain rfl : j = csr2.length := by omega
              have Hvl2 := hide hvl'
              have hKK : Ks3.length = g.objs.length ∧ ∀ o ∈ restN g (k + 1), Ks3[o.toNat]? = some (remK g (k + 1) o) := by
                refine ⟨hP3.len, fun o ho => ?_⟩
                obtain ⟨j, hj⟩ := List.getElem?_of_mem ho
                have hjl := (List.getElem?_eq_some_iff.1 hj).1
                have := hP3.at' j o hj
                rw [if_pos (by rw [unhide Hr2l]; exact hjl)] at this
                rw [this, rem_succ (unhide HN)]
              have HKK := hide hKK
              have hlk1 : Hid ((outN g (k + 1)).length = k + 1) := by
                show _ = _
                rw [out_succ (unhide HN), List.length_append, unhide Hkl]; rfl
              obtain ⟨la', lc', hvl2⟩ := ownsRow_slice hRl3.row
              subst hvl2
              clear hvl' hKK hP3
              go_wp2
              go_roundw
              case rel => exact ⟨k + 1, unhide hlk1, ⟨csr2, hR3⟩, ⟨csl2, hRl3⟩, ⟨Ks3, hL3, unhide HKK⟩, ⟨fun b e => by simp [Value.ownBlock] at e; omega, unhide Hvl2⟩, hX3, hs3, hb3⟩
              case measure =>
                show csr2.length < csr.length
                rw [unhide Hel]; omega
        · have hz : restN g k = [] := List.length_eq_zero_iff.1 (by omega)
          have HE := hide (outF_eq hG (unhide Hkl) (.inr (rest_nil hG hz)))
          have hc0 : csr.length = 0 := by omega
          have HRl := hide hRl
          clear hz hKs hvr hvl hRl hrl hRr
          rw [hc0]
          clear hc0
          go_wp2
          go_ret
          exact ⟨_, csl, rfl, by rw [unhide HE]; exact unhide HRl, hbB⟩

end Go.Proofs.Ytohofkfajmeohaa
