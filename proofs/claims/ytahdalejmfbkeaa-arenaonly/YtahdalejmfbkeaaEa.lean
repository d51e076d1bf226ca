/- Plain: what is laid is read as it was; what is read is laid as it stood. -/
import Derived.Test.YtahdalejmfbkeaaDb
import Derived.Test.YtahdalejmfbkeaaCa
namespace Go.Proofs.Ytahdalejmfbkeaa
set_option linter.unusedSimpArgs false
set_option linter.unusedVariables false
open Go.RowKit

theorem uh_of_zero {x : Int} (h : uhE x = 0) : unheadOk x = true := by
  cases e : unheadOk x
  · simp [uhE, e] at h
  · rfl

theorem head_plain {n : Nat} (h : n ≤ 4) : unheadOk (headW (n : Int) false 0) = true ∧ wlen (headW (n : Int) false 0) = n ∧ 0 ≤ headW (n : Int) false 0 ∧ headW (n : Int) false 0 < 18446744073709551616 := by
  have he : headE (n : Int) 0 = 0 := by
    have : headOk (n : Int) 0 = true := by simp [headOk]; omega
    simp [headE, this]
  obtain ⟨h1, h2, h3, _, _, h6⟩ := un_head (n : Int) 0 false he
  have hk := uh_of_zero h6
  refine ⟨hk, ?_, h1, h2⟩
  have := uhL_wlen hk
  omega

theorem placeOf_nodup {st : List Int} (hn : st.Nodup) {k : Nat} {x : Int} (h : st[k]? = some x) : placeOf st x = (k : Int) := by
  have hm := List.mem_of_getElem? h
  have hi := List.idxOf_lt_length_iff.2 hm
  have hg := List.getElem_idxOf hi
  rw [placeOf, if_pos hm]
  have := (List.getElem?_inj hi hn).1 ((List.getElem?_eq_getElem hi).trans (by rw [hg, h]))
  omega

theorem packE_num {n : Int} (h1 : -4611686018427387904 ≤ n) (h2 : n ≤ 4611686018427387903) : packE false n = 0 := by
  simp only [packE, Bool.false_eq_true, if_false]; rw [if_neg (by omega)]
theorem packE_ref {n : Int} (h1 : 0 ≤ n) (h2 : n < 256) : packE true n = 0 := by
  simp only [packE, if_true]; rw [if_neg (by omega)]
theorem num_of_packE {n : Int} (h : packE false n = 0) : -4611686018427387904 ≤ n ∧ n ≤ 4611686018427387903 := by
  simp only [packE, Bool.false_eq_true, if_false] at h
  split at h <;> omega

/-- One value, there and back. -/
theorem value_back {L : List (List V)} (ht : tot L ≤ 256) {v : V} (hr : v.1 = true → 0 ≤ v.2 ∧ v.2 < L.length) (hn : v.1 = false → -4611686018427387904 ≤ v.2 ∧ v.2 ≤ 4611686018427387903) :
    okW (stF 0 L) (packV (stF 0 L) v) = true ∧ valW (stF 0 L) (packV (stF 0 L) v) = v ∧ 0 ≤ packV (stF 0 L) v ∧ packV (stF 0 L) v < 18446744073709551616 := by
  obtain ⟨r, n⟩ := v
  cases r
  · have h := hn rfl
    rw [packV_num]
    obtain ⟨h1, h2, h3, h4, h5⟩ := packE_eq false n (packE_num h.1 h.2)
    exact ⟨by simp [okW, h3, h5], by simp [valW, h3, h4], h1, h2⟩
  · have h := hr rfl
    obtain ⟨m, rfl⟩ := Int.eq_ofNat_of_zero_le h.1
    have hm : m < L.length := by have := h.2; simp at this; omega
    rw [packV_ref (by omega) (by simpa using hm)]
    simp only [Int.toNat_natCast]
    have hg := stF_get L 0 m hm
    rw [Nat.zero_add] at hg
    have hlt : tot (L.take m) < 256 := by
      have h1 := tot_take_succ hm
      have h2 := tot_take_le L (m + 1)
      omega
    obtain ⟨h1, h2, h3, h4, h5⟩ := packE_eq true ((tot (L.take m) : Nat) : Int) (packE_ref (by omega) (by omega))
    have hmem := List.mem_of_getElem? hg
    refine ⟨by simp [okW, h3, h5, h4, hmem], ?_, h1, h2⟩
    simp only [valW, h3, h4, if_true]
    rw [placeOf_nodup (stF_nodup L 0) hg]

theorem lens_fields (st : List Int) (L : List (List V)) : (layFields st L).map List.length = L.map List.length := by
  unfold layFields; rw [List.map_map]; apply List.map_congr_left; intro l _; simp

theorem map_back {L : List (List V)} (ht : tot L ≤ 256) {l : List V} (hr : ∀ v ∈ l, v.1 = true → 0 ≤ v.2 ∧ v.2 < L.length) (hn : NumOk l) :
    (l.map (packV (stF 0 L))).map (valW (stF 0 L)) = l ∧ (∀ x ∈ l.map (packV (stF 0 L)), okW (stF 0 L) x = true) ∧ U64 (l.map (packV (stF 0 L))) := by
  refine ⟨?_, ?_, ?_⟩
  · rw [List.map_map]
    conv => rhs; rw [← List.map_id l]
    apply List.map_congr_left
    intro v hv
    exact (value_back ht (hr v hv) (hn.num v hv)).2.1
  · intro x hx
    obtain ⟨v, hv, rfl⟩ := List.mem_map.1 hx
    exact (value_back ht (hr v hv) (hn.num v hv)).1
  · intro x hx
    obtain ⟨v, hv, rfl⟩ := List.mem_map.1 hx
    exact (value_back ht (hr v hv) (hn.num v hv)).2.2

theorem joinW_mem : ∀ (hs : List Int) (fs : List (List Int)) (x : Int), x ∈ joinW hs fs → x ∈ hs ∨ ∃ f ∈ fs, x ∈ f
  | h :: hs, f :: fs, x, hx => by
    simp only [joinW, List.mem_cons, List.mem_append] at hx
    rcases hx with rfl | hx | hx
    · exact .inl (by simp)
    · exact .inr ⟨f, by simp, hx⟩
    · rcases joinW_mem hs fs x hx with h1 | ⟨g, h1, h2⟩
      · exact .inl (by simp [h1])
      · exact .inr ⟨g, by simp [h1], h2⟩
  | [], _, x, hx => by simp [joinW] at hx
  | _ :: _, [], x, hx => by simp [joinW] at hx

/-- What is laid is read as it was. -/
theorem lay_back {g : Gr} (h : checkG g = 0) : U64 (layWords g) ∧ U64 (layRoots g) ∧ splitR (layWords g) = some (layFields (stF 0 g.objs) g.objs) ∧ arenaE (layWords g) (layRoots g) = 0 ∧ readG (layFields (stF 0 g.objs) g.objs) (layRoots g) = g := by
  have hG := good_of_check h
  obtain ⟨hnr, hno⟩ := nums_of_check h
  have ht : tot g.objs ≤ 256 := by have := tot_le5 _ hG.n4; have := hG.n24; omega
  have hst : stF 0 (layFields (stF 0 g.objs) g.objs) = stF 0 g.objs := stF_same _ _ _ (lens_fields _ _)
  obtain ⟨r1, r2, r3⟩ := map_back ht hG.rr hnr
  have ho := fun l (hl : l ∈ g.objs) => map_back ht (hG.ro l hl) (hno l hl)
  have hsp : splitR (layWords g) = some (layFields (stF 0 g.objs) g.objs) := by
    refine join_split _ _ (by simp [layHeads, layFields]) ?_
    intro k x f hx hf
    simp only [layHeads, layFields, List.getElem?_map] at hx hf
    cases hk : g.objs[k]? with
    | none => rw [hk] at hx; cases hx
    | some l =>
      rw [hk] at hx hf
      simp only [Option.map_some, Option.some.injEq] at hx hf
      subst hx hf
      have := head_plain (hG.n4 l (List.mem_of_getElem? hk))
      exact ⟨this.1, by rw [this.2.1]; simp⟩
  have hlen : (layWords g).length = tot g.objs := by rw [← layK_all, layK_len, List.take_length]
  refine ⟨?_, r3, hsp, ?_, ?_⟩
  · intro x hx
    rcases joinW_mem _ _ x hx with hx | ⟨f, hf, hx⟩
    · simp only [layHeads, List.mem_map] at hx
      obtain ⟨l, hl, rfl⟩ := hx
      exact (head_plain (hG.n4 l hl)).2.2
    · simp only [layFields, List.mem_map] at hf
      obtain ⟨l, hl, rfl⟩ := hf
      exact (ho l hl).2.2 x hx
  · refine arenaE_ok (by omega) (by simp [layRoots]; exact hG.n8) hsp ?_
    rw [hst, List.all_eq_true]
    intro x hx
    rcases List.mem_append.1 hx with hx | hx
    · exact r2 x hx
    · obtain ⟨f, hf, hx⟩ := List.mem_flatten.1 hx
      simp only [layFields, List.mem_map] at hf
      obtain ⟨l, hl, rfl⟩ := hf
      exact (ho l hl).2.1 x hx
  · unfold readG
    rw [hst]
    have e1 : (layFields (stF 0 g.objs) g.objs).map (fun f => f.map (valW (stF 0 g.objs))) = g.objs := by
      unfold layFields
      rw [List.map_map]
      conv => rhs; rw [← List.map_id g.objs]
      apply List.map_congr_left
      intro l hl
      exact (ho l hl).1
    rw [e1]
    show Gr.mk g.objs ((layRoots g).map (valW (stF 0 g.objs))) = g
    have e2 : (layRoots g).map (valW (stF 0 g.objs)) = g.roots := r1
    rw [e2]

/-- One word, there and back. -/
theorem word_back {st : List Int} (hn : st.Nodup) {x : Int} (h1 : 0 ≤ x) (h2 : x < 18446744073709551616) (h : okW st x = true) :
    packV st (valW st x) = x ∧ ((valW st x).1 = true → 0 ≤ (valW st x).2 ∧ (valW st x).2 < st.length) ∧ ((valW st x).1 = false → -4611686018427387904 ≤ (valW st x).2 ∧ (valW st x).2 ≤ 4611686018427387903) := by
  simp only [okW, Bool.and_eq_true, beq_iff_eq, Bool.or_eq_true, Bool.not_eq_true', decide_eq_true_eq] at h
  obtain ⟨he, ho⟩ := h
  obtain ⟨p1, p2⟩ := pack_un x h1 h2 he
  cases hr : unRef x
  · rw [hr] at p1 p2
    rw [valW_num hr, packV_num]
    exact ⟨p2, fun e => (by cases e), fun _ => num_of_packE p1⟩
  · rw [hr] at p2
    have hm := ho.resolve_left (by rw [hr]; simp)
    have hi := List.idxOf_lt_length_iff.2 hm
    have hg := List.getElem_idxOf hi
    rw [valW_ref hr]
    have hp : placeOf st (unNum x) = ((st.idxOf (unNum x) : Nat) : Int) := by rw [placeOf, if_pos hm]
    refine ⟨?_, fun _ => by rw [hp]; omega, fun e => by cases e⟩
    simp only [packV, if_true, hp, Int.toNat_natCast]
    rw [List.getD_eq_getElem?_getD, List.getElem?_eq_getElem hi, Option.getD_some, hg]
    exact p2

theorem lens_read (fs : List (List Int)) (rs : List Int) : (readG fs rs).objs.map List.length = fs.map List.length := by
  unfold readG; simp only; rw [List.map_map]; apply List.map_congr_left; intro l _; simp

theorem map_word_back {st l : List Int} (hn : st.Nodup) (hU : U64 l) (h : ∀ x ∈ l, okW st x = true) : (l.map (valW st)).map (packV st) = l := by
  rw [List.map_map]
  conv => rhs; rw [← List.map_id l]
  apply List.map_congr_left
  intro x hx
  exact (word_back hn (hU x hx).1 (hU x hx).2 (h x hx)).1

/-- What is read of an arena that may be. -/
theorem read_only {ws rs : List Int} {fs : List (List Int)} (hUW : U64 ws) (hUR : U64 rs) (hE : arenaE ws rs = 0) (hs : splitR ws = some fs) :
    (fs.length ≤ 24 → checkG (readG fs rs) = 0) ∧ layRoots (readG fs rs) = rs ∧ (layWords (readG fs rs)).length = ws.length ∧ ∀ i : Nat, (i : Int) ∈ stF 0 fs ∨ ws[i]? = (layWords (readG fs rs))[i]? := by
  have hsz : ws.length ≤ 256 ∧ rs.length ≤ 8 := by
    unfold arenaE at hE
    split at hE
    · omega
    · rename_i h; omega
  have hall : (rs ++ fs.flatten).all (okW (stF 0 fs)) = true := by
    unfold arenaE at hE
    rw [if_neg (by omega), hs] at hE
    simp only at hE
    split at hE
    · assumption
    · omega
  rw [List.all_eq_true] at hall
  have hokr : ∀ x ∈ rs, okW (stF 0 fs) x = true := fun x hx => hall x (List.mem_append.2 (.inl hx))
  have hokf : ∀ f ∈ fs, ∀ x ∈ f, okW (stF 0 fs) x = true := fun f hf x hx => hall x (List.mem_append.2 (.inr (List.mem_flatten.2 ⟨f, hf, hx⟩)))
  have hUf := u64_fields hs hUW
  have hnd := stF_nodup fs 0
  have hst : stF 0 (readG fs rs).objs = stF 0 fs := stF_same _ _ _ (lens_read fs rs)
  have hlf : layFields (stF 0 fs) (readG fs rs).objs = fs := by
    unfold layFields readG
    simp only
    rw [List.map_map]
    conv => rhs; rw [← List.map_id fs]
    apply List.map_congr_left
    intro f hf
    exact map_word_back hnd (hUf f hf) (hokf f hf)
  obtain ⟨hs', h1, h2, h3⟩ := split_join ws.length ws fs (Nat.le_refl _) hs
  have hhl : (layHeads (readG fs rs).objs).length = fs.length := by simp [layHeads, readG]
  have hlw : layWords (readG fs rs) = joinW (layHeads (readG fs rs).objs) fs := by unfold layWords; rw [hst, hlf]
  refine ⟨fun h24 => ?_, ?_, ?_, fun i => ?_⟩
  · have hlen : (readG fs rs).objs.length = fs.length := readG_len fs rs
    have hvals : ∀ v ∈ allV (readG fs rs), badV v (readG fs rs).objs.length = 0 := by
      intro v hv
      rw [hlen]
      have key : ∃ x, v = valW (stF 0 fs) x ∧ 0 ≤ x ∧ x < 18446744073709551616 ∧ okW (stF 0 fs) x = true := by
        unfold allV readG at hv
        rcases List.mem_append.1 hv with hv | hv
        · obtain ⟨x, hx, rfl⟩ := List.mem_map.1 hv
          exact ⟨x, rfl, (hUR x hx).1, (hUR x hx).2, hokr x hx⟩
        · obtain ⟨l, hl, hv⟩ := List.mem_flatten.1 hv
          obtain ⟨f, hf, rfl⟩ := List.mem_map.1 hl
          obtain ⟨x, hx, rfl⟩ := List.mem_map.1 hv
          exact ⟨x, rfl, (hUf f hf x hx).1, (hUf f hf x hx).2, hokf f hf x hx⟩
      obtain ⟨x, rfl, b1, b2, b3⟩ := key
      obtain ⟨_, w1, w2⟩ := word_back hnd b1 b2 b3
      unfold badV
      cases hr : (valW (stF 0 fs) x).1
      · have := w2 hr
        simp; omega
      · have := w1 hr
        rw [stF_len] at this
        simp; omega
    have hl : isLargeG (readG fs rs) = false := by
      unfold isLargeG
      rw [hlen, readG_rlen]
      simp only [Bool.or_eq_false_iff, decide_eq_false_iff_not, List.any_eq_false, decide_eq_true_eq]
      refine ⟨⟨by omega, by omega⟩, ?_⟩
      intro l hl
      unfold readG at hl
      obtain ⟨f, hf, rfl⟩ := List.mem_map.1 hl
      have := h3 f hf
      simp; omega
    unfold checkG
    rw [hl]
    have a2 : (allV (readG fs rs)).any (fun v => badV v (readG fs rs).objs.length == 2) = false := by
      rw [List.any_eq_false]; intro v hv; rw [hvals v hv]; simp
    have a3 : (allV (readG fs rs)).any (fun v => badV v (readG fs rs).objs.length == 3) = false := by
      rw [List.any_eq_false]; intro v hv; rw [hvals v hv]; simp
    rw [a2, a3]; rfl
  · unfold layRoots
    rw [hst]
    exact map_word_back hnd hUR hokr
  · rw [hlw, joinW_len _ _ hhl, ← (splitR_st hs).1]
  · rw [hlw]
    have := join_same hs' (layHeads (readG fs rs).objs) fs 0 i h1 hhl
    rw [Nat.zero_add, ← h2] at this
    exact this

end Go.Proofs.Ytahdalejmfbkeaa
