/- Walks: drop, mayCome. -/
import Derived.Test.YtohofkfajmeohaaProg
import Derived.Test.YtohofkfajmeohaaMem
import Derived.Test.YtohofkfajmeohaaCg
import Derived.StillTailTactics
namespace Go.Proofs.Ytohofkfajmeohaa
set_option linter.unusedSimpArgs false
set_option linter.unusedVariables false
open Go.RowKit

/-- A list without those of another one. -/
def dropL (K c : List Int) : List Int := K.filter fun x => !decide (x ∈ c)

theorem dropL_nil (K : List Int) : dropL K [] = K := by simp [dropL]
theorem dropL_nodup {K c : List Int} (h : K.Nodup) : (dropL K c).Nodup := h.filter _
theorem dropL_snoc {K c : List Int} (h : K.Nodup) (x : Int) : dropL K (c ++ [x]) = (dropL K c).erase x := by
  rw [(dropL_nodup h).erase_eq_filter]
  unfold dropL
  rw [List.filter_filter]
  refine List.filter_congr fun y _ => ?_
  by_cases e : y = x
  · subst e; simp
  · simp [e]
theorem mem_dropL {K c : List Int} {x : Int} : x ∈ dropL K c ↔ x ∈ K ∧ x ∉ c := by simp [dropL]

theorem grown_trans {A B C : World} {r : Nat} (h : A.grownBy B (some r)) (k : B.grownBy C (some r)) : A.grownBy C (some r) :=
  ⟨k.os.trans h.os, k.tape.trans h.tape, k.output.trans h.output, Nat.le_trans h.size k.size, fun i hi hr => (k.block i (by have := h.size; omega) hr).trans (h.block i hi hr)⟩
theorem grown_any {A B : World} {row : Option Nat} (h : A.grownBy B none) : A.grownBy B row := ⟨h.os, h.tape, h.output, h.size, fun i hi _ => h.block i hi (by simp)⟩

/-- One set of the row is turned. -/
theorem Led.turn {W W' : World} {base : Nat} {v : Value} {ms : List Nat} {Ks : List (List Int)} (h : Led W base v ms Ks) {i m n : Nat} {D : DataW Unit} {K' : List Int} (hm : ms[i]? = some m) (hs : SetAt W' m n D K') (hg : W.grownBy W' (some m)) : Led W' base v ms (Ks.set i K') := by
  obtain ⟨n0, D0, K0, hs0⟩ := h.at' (List.mem_of_getElem? hm)
  obtain ⟨es, clock, hblk⟩ := hs0.block
  refine ⟨h.row.kept hg ?_, h.nd, h.ge, by simp [h.len], fun k x K hk hK => ?_⟩
  · rcases h.row.2 with ⟨rfl, _⟩ | ⟨g, cap, cur, rfl, _, hgb, _⟩
    · exact .inl rfl
    · refine .inr fun e => ?_
      simp [Value.ownBlock] at e
      subst e
      rw [hgb] at hblk; cases hblk
  · by_cases e : k = i
    · subst e
      rw [hm] at hk
      injection hk with hk
      subst hk
      have hl := (List.getElem?_eq_some_iff.1 hK).1
      rw [List.getElem?_set_self (by simpa using hl)] at hK
      injection hK with hK
      subst hK
      exact ⟨n, D, hs⟩
    · rw [List.getElem?_set_ne (fun e' => e e'.symm)] at hK
      obtain ⟨n', D', hs'⟩ := h.set k x K hk hK
      refine ⟨n', D', hs'.kept hg (fun ee => e ?_)⟩
      injection ee with ee
      have h1 := (List.getElem?_eq_some_iff.1 hk).1
      exact (List.getElem?_inj h1 h.nd).1 (by rw [hk, hm, ee])

set_option maxRecDepth 100000 in
set_option maxHeartbeats 4000000 in
theorem drop_c (ao ar al : Option Addr) (no co nr cr nl cl : Nat) (base bc bm : Nat) (ms : List Nat) (Ks : List (List Int)) (K lc lm : List Int) (c0 : Nat) (vc vm : Value) (w : World) (hL : Led w base (.slice al nl cl) ms Ks)
    (hK : Ks[c0]? = some K) (hnd : K.Nodup) (hc : w.ownsRow bc 3 1 vc lc.length (intsV lc)) (hc0 : lc[0]? = some (c0 : Int)) (hm : w.ownsRow bm 3 1 vm lm.length (intsV lm)) (hr : ∀ x ∈ lm, 0 ≤ x ∧ x < 1000) (hn : Ks.length ≤ 1000) (hln : lm.length ≤ 1000) :
    Calls Try.prog 34 #[.agg #[.slice ao no co, .slice ar nr cr, .slice al nl cl], vc, vm] w fun e w' => e = .returned (.tuple #[]) ∧ ∃ m, ms[c0]? = some m ∧ Led w' base (.slice al nl cl) ms (Ks.set c0 (dropL K lm)) ∧ w.grownBy w' (some m) := by
  have hcl := (List.getElem?_eq_some_iff.1 hc0).1
  have hKl := (List.getElem?_eq_some_iff.1 hK).1
  obtain ⟨m, hmm⟩ : ∃ m, ms[c0]? = some m := ⟨ms[c0]'(by rw [← hL.len]; exact hKl), List.getElem?_eq_getElem _⟩
  have hX0 : SBox (w.alloc (.cells #[.slice ao no co, .slice ar nr cr, .slice al nl cl] 47)) w.heap.size ao ar no co nr cr (.slice al nl cl) := ⟨by simp [go_sem], by simp [go_sem], by simp [go_sem], by simp [go_sem]⟩
  have hg0 : w.grownBy (w.alloc (.cells #[.slice ao no co, .slice ar nr cr, .slice al nl cl] 47)) none := World.grownBy_alloc _ _ _
  obtain ⟨va, vcap, rfl⟩ := ownsRow_slice hm
  obtain ⟨ca, ccap, rfl⟩ := ownsRow_slice hc
  have hmlt : m < w.heap.size := by
    obtain ⟨_, _, _, hs⟩ := hL.at' (List.mem_of_getElem? hmm)
    exact hs.lt
  go_enter Try.func34, Try.ntmps34
  go_wp2
  generalize hW : w.alloc (.cells #[.slice ao no co, .slice ar nr cr, .slice al nl cl] 47) = W0 at *
  have hs0 : W0.heap.size = w.heap.size + 1 := by rw [← hW]; simp
  clear hW
  have hL0 := hL.own hg0 (own_none _) (fun r e => by cases e)
  have hc' := hc.kept hg0 (own_none _)
  have hm' := hm.kept hg0 (own_none _)
  go_loopw [10] (fun i wr => ∃ k : Nat, k ≤ lm.length ∧ i = .int .i64 k ∧ Led wr base (.slice al nl cl) ms (Ks.set c0 (dropL K (lm.take k))) ∧ W0.grownBy wr (some m)) (fun i _ => lm.length - (intOf i).toNat)
  case atStart =>
    refine ⟨0, Nat.zero_le _, rfl, ?_, ⟨rfl, rfl, rfl, Nat.le_refl _, fun _ _ _ => rfl⟩⟩
    rw [List.take_zero, dropL_nil]
    have e : Ks.set c0 K = Ks := by
      apply List.ext_getElem?
      intro i
      by_cases e : i = c0
      · subst e; rw [List.getElem?_set_self hKl, hK]
      · rw [List.getElem?_set_ne (fun e' => e e'.symm)]
    rw [e]
    exact hL0
  case round =>
    obtain ⟨k, hk, rfl, hLr, hg⟩ := hrel
    have hsz := hg.size
    have hX := hX0.kept (hg.block w.heap.size (by omega) (fun e => by injection e; omega))
    have hx2 := hX.c2
    obtain ⟨n0, D0, K0, hsm⟩ := hL0.at' (List.mem_of_getElem? hmm)
    obtain ⟨es0, cl0, hblk⟩ := hsm.block
    have hmr := ints_kept hm' hg (noInts_map hblk)
    have hcr := ints_kept hc' hg (noInts_map hblk)
    by_cases hlt : k < lm.length
    · obtain ⟨g1, cap1, hv1, hx1, hgl1⟩ := ints_at hmr hlt
      injection hv1 with e1 e2 e3
      subst e1 e3
      obtain ⟨g2, cap2, hv2, hx2', hgl2⟩ := ints_at hcr hcl
      injection hv2 with e1 e2 e3
      subst e1 e3
      have hc0' : lc[0] = (c0 : Int) := by rw [List.getElem?_eq_getElem hcl] at hc0; injection hc0
      rw [hc0'] at hx2'
      have hxr := hr _ (List.getElem_mem hlt)
      have hKr : (Ks.set c0 (dropL K (lm.take k)))[c0]? = some (dropL K (lm.take k)) := List.getElem?_set_self hKl
      obtain ⟨g3, cap3, m', n3, D3, hv3, hm3, hc3, hgl3, hs3⟩ := hLr.get hKr
      injection hv3 with e1 e2 e3
      subst e1 e3
      rw [hmm] at hm3
      injection hm3 with hm3
      subst hm3
      have hnl : nl = Ks.length := by simpa using e2
      subst hnl
      have HT := hide (show dropL K (lm.take (k + 1)) = (dropL K (lm.take k)).erase lm[k] by rw [List.take_succ_eq_append_getElem hlt, dropL_snoc hnd])
      have Hkey := hide (Maps.keyOf_int_mk (P := Try.prog) Try.underlying3 (wf_i64 hxr.1 (by omega)))
      have Hnd := hide (dropL_nodup (c := lm.take k) hnd)
      have Hms := hide hmm
      clear hc0 hc0' hK hKr e2 hmm
      generalize lm[k] = x at *
      go_wp2
      go_still_tail 8, Try.mixed
      go_wp2_with (at_delete; go_must (refine wpList_delete_own _ rfl _ _ 65 3 rfl 71 (Maps.int_keyed Try.underlying3) Try.underlying65 _ m _ D3 rfl hs3.map.drew _ _ rfl (unhide Hkey) ?_); intro w1 hown1 hturn1)
      go_roundw
      case rel =>
        have hgd : wr.grownBy w1 (some m) := ⟨hturn1.grown.os, hturn1.grown.tape, hturn1.grown.output, hturn1.grown.size, hturn1.grown.block⟩
        refine ⟨k + 1, by omega, by go_num, ?_, grown_trans hg hgd⟩
        rw [unhide HT]
        have := hLr.turn (unhide Hms) (setAt_del hs3 (unhide Hnd) hown1) hgd
        rwa [List.set_set] at this
      case measure => simp [intOf]; omega
    · obtain rfl : k = lm.length := by omega
      rw [List.take_length] at hLr
      go_wp2
      go_end0
      exact ⟨rfl, m, hmm, hLr, grown_trans (grown_any hg0) hg⟩

end Go.Proofs.Ytohofkfajmeohaa
