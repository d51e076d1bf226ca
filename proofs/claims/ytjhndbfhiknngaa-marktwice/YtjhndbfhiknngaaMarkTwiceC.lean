/- Merged texts: Bg Ca Ea Ma Mb Mc Md Me Mf Mg Mh Mi Mj Ml Mm Mn Mo. -/
import Derived.Test.YtjhndbfhiknngaaProg
import Derived.Test.YtjhndbfhiknngaaMarkTwiceB
import Derived.WalkSmall
import Derived.Deep.RegionWith
import Derived.RegionTactic
import Derived.BigQuiet
import Derived.Deep.RegionLaw
import Derived.Deep.CutRange
import Derived.OwnWalk

/- Walks: Check, Starts, Read; unsound. -/
namespace Go.Proofs.Ytjhndbfhiknngaa
set_option linter.unusedSimpArgs false
set_option linter.unusedVariables false
open Go.RowKit Go.Shelf

/-- What is told, whether an arena may be or not. -/
theorem ReadRes.shape {base : Nat} {ws rs : List Int} {e : Ending} {W : World} (h : ReadRes base ws rs e W) : ∃ ao no co ar nr cr sa ns sc, e = .returned (.tuple #[.agg #[.slice ao no co, .slice ar nr cr], .slice sa ns sc, .int .i64 (arenaE ws rs)]) ∧
    (arenaE ws rs ≠ 0 → ao = none ∧ no = 0 ∧ co = 0 ∧ ar = none ∧ nr = 0 ∧ cr = 0 ∧ sa = none ∧ ns = 0 ∧ sc = 0) ∧
    (arenaE ws rs = 0 → ∃ fs, splitR ws = some fs ∧ no = (readG fs rs).objs.length ∧ nr = (readG fs rs).roots.length ∧ ns = (stF 0 fs).length ∧ ObjsF base W ao (readG fs rs).objs ∧ ValsF base W ar (readG fs rs).roots ∧ IntsF base W sa (stF 0 fs)) := by
  rcases h with ⟨h1, h2⟩ | ⟨h1, fs, ao, co, ar, cr, sa, sc, h2, h3, h4, h5, h6⟩
  · exact ⟨_, _, _, _, _, _, _, _, _, h2, fun _ => ⟨rfl, rfl, rfl, rfl, rfl, rfl, rfl, rfl, rfl⟩, fun h => absurd h h1⟩
  · exact ⟨_, _, _, _, _, _, _, _, _, by rw [h3, h1], fun h => absurd h1 h, fun _ => ⟨fs, h2, rfl, rfl, rfl, h4, h5, h6⟩⟩

set_option maxRecDepth 100000 in
set_option maxHeartbeats 1000000 in
theorem acheck_c (aw ar : Option Addr) (cw cr : Nat) (ws rs : List Int) (B : Nat) (w : World) (hW : Wds B w aw ws) (hR : Wds B w ar rs) (hUW : U64 ws) (hUR : U64 rs) (hB : B ≤ w.heap.size) (hcap : ws.length ≤ cw) :
    Calls Try.prog 26 #[.agg #[.slice aw ws.length cw, .slice ar rs.length cr]] w fun e w' => e = .returned (.int .i64 (arenaE ws rs)) ∧ Below w.heap.size w w' := by
  have hb1 := (Below.refl w.heap.size w).alloc (Nat.le_refl _) (.cells #[.slice aw ws.length cw, .slice ar rs.length cr] 24)
  go_enter Try.func26, Try.ntmps26
  go_wp2_with fail
  refine (read_c _ _ _ _ ws rs B _ (hW.below (hb1.mono hB)) (hR.below (hb1.mono hB)) hUW hUR (by simp; omega) hcap).mono ?_
  rintro e w2 ⟨hres, hb2⟩
  obtain ⟨ao, no, co, ar', nr, cr', sa, ns, sc, rfl, _, _⟩ := hres.shape
  clear hres
  simp only [World.size_alloc] at hb2
  have hs2 := hb2.size
  simp only [World.size_alloc] at hs2
  go_wp2
  go_ret
  exact ⟨rfl, (hb1.trans (hb2.mono (by omega))).alloc (by omega) _⟩

def StartRes (base : Nat) (ws rs : List Int) (e : Ending) (W : World) : Prop :=
  (arenaE ws rs ≠ 0 ∧ e = .returned (.tuple #[.slice none 0 0, .int .i64 (arenaE ws rs)])) ∨ (arenaE ws rs = 0 ∧ ∃ fs sa sc, splitR ws = some fs ∧ e = .returned (.tuple #[.slice sa (stF 0 fs).length sc, .int .i64 0]) ∧ IntsF base W sa (stF 0 fs))

def AReadRes (base : Nat) (ws rs : List Int) (e : Ending) (W : World) : Prop :=
  (arenaE ws rs ≠ 0 ∧ e = .returned (.tuple #[.agg #[.slice none 0 0, .slice none 0 0], .int .i64 (arenaE ws rs)])) ∨
  (arenaE ws rs = 0 ∧ ∃ fs ao co ar cr, splitR ws = some fs ∧ e = .returned (.tuple #[.agg #[.slice ao (readG fs rs).objs.length co, .slice ar (readG fs rs).roots.length cr], .int .i64 0]) ∧ ObjsF base W ao (readG fs rs).objs ∧ ValsF base W ar (readG fs rs).roots)

set_option maxRecDepth 100000 in
set_option maxHeartbeats 400000 in
theorem unsound_c (aw ar : Option Addr) (cw cr : Nat) (ws rs : List Int) (B : Nat) (w : World) (hW : Wds B w aw ws) (hR : Wds B w ar rs) (hUW : U64 ws) (hUR : U64 rs) (hB : B ≤ w.heap.size) (hcap : ws.length ≤ cw) :
    Calls Try.prog 16 #[.agg #[.slice aw ws.length cw, .slice ar rs.length cr]] w fun e w' => e = .returned (.bool (arenaE ws rs != 0)) ∧ Below w.heap.size w w' := by
  have hb1 := (Below.refl w.heap.size w).alloc (Nat.le_refl _) (.cells #[.slice aw ws.length cw, .slice ar rs.length cr] 24)
  go_enter Try.func16, Try.ntmps16
  go_wp2_with (go_at_call 26; go_must (refine (acheck_c _ _ _ _ ws rs B _ (hW.below (hb1.mono hB)) (hR.below (hb1.mono hB)) hUW hUR (by simp; omega) hcap).mono ?_); rintro e w2 ⟨rfl, hb2⟩)
  go_ret
  exact ⟨rfl, hb1.trans (hb2.mono (by simp))⟩

end Go.Proofs.Ytjhndbfhiknngaa

/- Walks: ArenaCovers. -/
namespace Go.Proofs.Ytjhndbfhiknngaa
set_option linter.unusedSimpArgs false
set_option linter.unusedVariables false
open Go.RowKit Go.Shelf

theorem readG_len (fs : List (List Int)) (rs : List Int) : (readG fs rs).objs.length = fs.length := by simp [readG]
theorem readG_rlen (fs : List (List Int)) (rs : List Int) : (readG fs rs).roots.length = rs.length := by simp [readG]
theorem readG_flen {fs : List (List Int)} {rs : List Int} {k : Nat} {l : List V} (h : (readG fs rs).objs[k]? = some l) : ∃ hk : k < fs.length, l.length = fs[k].length := by
  have hk : k < fs.length := by have := (List.getElem?_eq_some_iff.1 h).1; rw [readG_len] at this; exact this
  refine ⟨hk, ?_⟩
  simp [readG, hk] at h
  rw [← h]
  simp

end Go.Proofs.Ytjhndbfhiknngaa

/- Plain: what is laid is read as it was; what is read is laid as it stood. -/
namespace Go.Proofs.Ytjhndbfhiknngaa
set_option linter.unusedSimpArgs false
set_option linter.unusedVariables false
open Go.RowKit

theorem uh_of_zero {x : Int} (h : uhE x = 0) : unheadOk x = true := by
  cases e : unheadOk x
  · simp [uhE, e] at h
  · rfl

theorem head_plain {n : Nat} (h : n ≤ 4) : unheadOk (headW (n : Int) false 0) = true ∧ wlen (headW (n : Int) false 0) = n ∧ 0 ≤ headW (n : Int) false 0 ∧ headW (n : Int) false 0 < 18446744073709551616 := by
  have he : headE (n : Int) 0 = 0 := by
    have : headOk (n : Int) 0 = true := by simp [headOk]; omega
    simp [headE, this]
  obtain ⟨h1, h2, h3, _, _, h6⟩ := un_head (n : Int) 0 false he
  have hk := uh_of_zero h6
  refine ⟨hk, ?_, h1, h2⟩
  have := uhL_wlen hk
  omega

theorem placeOf_nodup {st : List Int} (hn : st.Nodup) {k : Nat} {x : Int} (h : st[k]? = some x) : placeOf st x = (k : Int) := by
  have hm := List.mem_of_getElem? h
  have hi := List.idxOf_lt_length_iff.2 hm
  have hg := List.getElem_idxOf hi
  rw [placeOf, if_pos hm]
  have := (List.getElem?_inj hi hn).1 ((List.getElem?_eq_getElem hi).trans (by rw [hg, h]))
  omega

theorem packE_num {n : Int} (h1 : -4611686018427387904 ≤ n) (h2 : n ≤ 4611686018427387903) : packE false n = 0 := by
  simp only [packE, Bool.false_eq_true, if_false]; rw [if_neg (by omega)]
theorem packE_ref {n : Int} (h1 : 0 ≤ n) (h2 : n < 256) : packE true n = 0 := by
  simp only [packE, if_true]; rw [if_neg (by omega)]
theorem num_of_packE {n : Int} (h : packE false n = 0) : -4611686018427387904 ≤ n ∧ n ≤ 4611686018427387903 := by
  simp only [packE, Bool.false_eq_true, if_false] at h
  split at h <;> omega

/-- One value, there and back. -/
theorem value_back {L : List (List V)} (ht : tot L ≤ 256) {v : V} (hr : v.1 = true → 0 ≤ v.2 ∧ v.2 < L.length) (hn : v.1 = false → -4611686018427387904 ≤ v.2 ∧ v.2 ≤ 4611686018427387903) :
    okW (stF 0 L) (packV (stF 0 L) v) = true ∧ valW (stF 0 L) (packV (stF 0 L) v) = v ∧ 0 ≤ packV (stF 0 L) v ∧ packV (stF 0 L) v < 18446744073709551616 := by
  obtain ⟨r, n⟩ := v
  cases r
  · have h := hn rfl
    rw [packV_num]
    obtain ⟨h1, h2, h3, h4, h5⟩ := packE_eq false n (packE_num h.1 h.2)
    exact ⟨by simp [okW, h3, h5], by simp [valW, h3, h4], h1, h2⟩
  · have h := hr rfl
    obtain ⟨m, rfl⟩ := Int.eq_ofNat_of_zero_le h.1
    have hm : m < L.length := by have := h.2; simp at this; omega
    rw [packV_ref (by omega) (by simpa using hm)]
    simp only [Int.toNat_natCast]
    have hg := stF_get L 0 m hm
    rw [Nat.zero_add] at hg
    have hlt : tot (L.take m) < 256 := by
      have h1 := tot_take_succ hm
      have h2 := tot_take_le L (m + 1)
      omega
    obtain ⟨h1, h2, h3, h4, h5⟩ := packE_eq true ((tot (L.take m) : Nat) : Int) (packE_ref (by omega) (by omega))
    have hmem := List.mem_of_getElem? hg
    refine ⟨by simp [okW, h3, h5, h4, hmem], ?_, h1, h2⟩
    simp only [valW, h3, h4, if_true]
    rw [placeOf_nodup (stF_nodup L 0) hg]

theorem lens_fields (st : List Int) (L : List (List V)) : (layFields st L).map List.length = L.map List.length := by
  unfold layFields; rw [List.map_map]; apply List.map_congr_left; intro l _; simp

theorem map_back {L : List (List V)} (ht : tot L ≤ 256) {l : List V} (hr : ∀ v ∈ l, v.1 = true → 0 ≤ v.2 ∧ v.2 < L.length) (hn : NumOk l) :
    (l.map (packV (stF 0 L))).map (valW (stF 0 L)) = l ∧ (∀ x ∈ l.map (packV (stF 0 L)), okW (stF 0 L) x = true) ∧ U64 (l.map (packV (stF 0 L))) := by
  refine ⟨?_, ?_, ?_⟩
  · rw [List.map_map]
    conv => rhs; rw [← List.map_id l]
    apply List.map_congr_left
    intro v hv
    exact (value_back ht (hr v hv) (hn.num v hv)).2.1
  · intro x hx
    obtain ⟨v, hv, rfl⟩ := List.mem_map.1 hx
    exact (value_back ht (hr v hv) (hn.num v hv)).1
  · intro x hx
    obtain ⟨v, hv, rfl⟩ := List.mem_map.1 hx
    exact (value_back ht (hr v hv) (hn.num v hv)).2.2

theorem joinW_mem : ∀ (hs : List Int) (fs : List (List Int)) (x : Int), x ∈ joinW hs fs → x ∈ hs ∨ ∃ f ∈ fs, x ∈ f
  | h :: hs, f :: fs, x, hx => by
    simp only [joinW, List.mem_cons, List.mem_append] at hx
    rcases hx with rfl | hx | hx
    · exact .inl (by simp)
    · exact .inr ⟨f, by simp, hx⟩
    · rcases joinW_mem hs fs x hx with h1 | ⟨g, h1, h2⟩
      · exact .inl (by simp [h1])
      · exact .inr ⟨g, by simp [h1], h2⟩
  | [], _, x, hx => by simp [joinW] at hx
  | _ :: _, [], x, hx => by simp [joinW] at hx

/-- One word, there and back. -/
theorem word_back {st : List Int} (hn : st.Nodup) {x : Int} (h1 : 0 ≤ x) (h2 : x < 18446744073709551616) (h : okW st x = true) :
    packV st (valW st x) = x ∧ ((valW st x).1 = true → 0 ≤ (valW st x).2 ∧ (valW st x).2 < st.length) ∧ ((valW st x).1 = false → -4611686018427387904 ≤ (valW st x).2 ∧ (valW st x).2 ≤ 4611686018427387903) := by
  simp only [okW, Bool.and_eq_true, beq_iff_eq, Bool.or_eq_true, Bool.not_eq_true', decide_eq_true_eq] at h
  obtain ⟨he, ho⟩ := h
  obtain ⟨p1, p2⟩ := pack_un x h1 h2 he
  cases hr : unRef x
  · rw [hr] at p1 p2
    rw [valW_num hr, packV_num]
    exact ⟨p2, fun e => (by cases e), fun _ => num_of_packE p1⟩
  · rw [hr] at p2
    have hm := ho.resolve_left (by rw [hr]; simp)
    have hi := List.idxOf_lt_length_iff.2 hm
    have hg := List.getElem_idxOf hi
    rw [valW_ref hr]
    have hp : placeOf st (unNum x) = ((st.idxOf (unNum x) : Nat) : Int) := by rw [placeOf, if_pos hm]
    refine ⟨?_, fun _ => by rw [hp]; omega, fun e => by cases e⟩
    simp only [packV, if_true, hp, Int.toNat_natCast]
    rw [List.getD_eq_getElem?_getD, List.getElem?_eq_getElem hi, Option.getD_some, hg]
    exact p2

theorem lens_read (fs : List (List Int)) (rs : List Int) : (readG fs rs).objs.map List.length = fs.map List.length := by
  unfold readG; simp only; rw [List.map_map]; apply List.map_congr_left; intro l _; simp

theorem map_word_back {st l : List Int} (hn : st.Nodup) (hU : U64 l) (h : ∀ x ∈ l, okW st x = true) : (l.map (valW st)).map (packV st) = l := by
  rw [List.map_map]
  conv => rhs; rw [← List.map_id l]
  apply List.map_congr_left
  intro x hx
  exact (word_back hn (hU x hx).1 (hU x hx).2 (h x hx)).1

/-- What is read of an arena that may be. -/
theorem read_only {ws rs : List Int} {fs : List (List Int)} (hUW : U64 ws) (hUR : U64 rs) (hE : arenaE ws rs = 0) (hs : splitR ws = some fs) :
    (fs.length ≤ 24 → checkG (readG fs rs) = 0) ∧ layRoots (readG fs rs) = rs ∧ (layWords (readG fs rs)).length = ws.length ∧ ∀ i : Nat, (i : Int) ∈ stF 0 fs ∨ ws[i]? = (layWords (readG fs rs))[i]? := by
  have hsz : ws.length ≤ 256 ∧ rs.length ≤ 8 := by
    unfold arenaE at hE
    split at hE
    · omega
    · rename_i h; omega
  have hall : (rs ++ fs.flatten).all (okW (stF 0 fs)) = true := by
    unfold arenaE at hE
    rw [if_neg (by omega), hs] at hE
    simp only at hE
    split at hE
    · assumption
    · omega
  rw [List.all_eq_true] at hall
  have hokr : ∀ x ∈ rs, okW (stF 0 fs) x = true := fun x hx => hall x (List.mem_append.2 (.inl hx))
  have hokf : ∀ f ∈ fs, ∀ x ∈ f, okW (stF 0 fs) x = true := fun f hf x hx => hall x (List.mem_append.2 (.inr (List.mem_flatten.2 ⟨f, hf, hx⟩)))
  have hUf := u64_fields hs hUW
  have hnd := stF_nodup fs 0
  have hst : stF 0 (readG fs rs).objs = stF 0 fs := stF_same _ _ _ (lens_read fs rs)
  have hlf : layFields (stF 0 fs) (readG fs rs).objs = fs := by
    unfold layFields readG
    simp only
    rw [List.map_map]
    conv => rhs; rw [← List.map_id fs]
    apply List.map_congr_left
    intro f hf
    exact map_word_back hnd (hUf f hf) (hokf f hf)
  obtain ⟨hs', h1, h2, h3⟩ := split_join ws.length ws fs (Nat.le_refl _) hs
  have hhl : (layHeads (readG fs rs).objs).length = fs.length := by simp [layHeads, readG]
  have hlw : layWords (readG fs rs) = joinW (layHeads (readG fs rs).objs) fs := by unfold layWords; rw [hst, hlf]
  refine ⟨fun h24 => ?_, ?_, ?_, fun i => ?_⟩
  · have hlen : (readG fs rs).objs.length = fs.length := readG_len fs rs
    have hvals : ∀ v ∈ allV (readG fs rs), badV v (readG fs rs).objs.length = 0 := by
      intro v hv
      rw [hlen]
      have key : ∃ x, v = valW (stF 0 fs) x ∧ 0 ≤ x ∧ x < 18446744073709551616 ∧ okW (stF 0 fs) x = true := by
        unfold allV readG at hv
        rcases List.mem_append.1 hv with hv | hv
        · obtain ⟨x, hx, rfl⟩ := List.mem_map.1 hv
          exact ⟨x, rfl, (hUR x hx).1, (hUR x hx).2, hokr x hx⟩
        · obtain ⟨l, hl, hv⟩ := List.mem_flatten.1 hv
          obtain ⟨f, hf, rfl⟩ := List.mem_map.1 hl
          obtain ⟨x, hx, rfl⟩ := List.mem_map.1 hv
          exact ⟨x, rfl, (hUf f hf x hx).1, (hUf f hf x hx).2, hokf f hf x hx⟩
      obtain ⟨x, rfl, b1, b2, b3⟩ := key
      obtain ⟨_, w1, w2⟩ := word_back hnd b1 b2 b3
      unfold badV
      cases hr : (valW (stF 0 fs) x).1
      · have := w2 hr
        simp; omega
      · have := w1 hr
        rw [stF_len] at this
        simp; omega
    have hl : isLargeG (readG fs rs) = false := by
      unfold isLargeG
      rw [hlen, readG_rlen]
      simp only [Bool.or_eq_false_iff, decide_eq_false_iff_not, List.any_eq_false, decide_eq_true_eq]
      refine ⟨⟨by omega, by omega⟩, ?_⟩
      intro l hl
      unfold readG at hl
      obtain ⟨f, hf, rfl⟩ := List.mem_map.1 hl
      have := h3 f hf
      simp; omega
    unfold checkG
    rw [hl]
    have a2 : (allV (readG fs rs)).any (fun v => badV v (readG fs rs).objs.length == 2) = false := by
      rw [List.any_eq_false]; intro v hv; rw [hvals v hv]; simp
    have a3 : (allV (readG fs rs)).any (fun v => badV v (readG fs rs).objs.length == 3) = false := by
      rw [List.any_eq_false]; intro v hv; rw [hvals v hv]; simp
    rw [a2, a3]; rfl
  · unfold layRoots
    rw [hst]
    exact map_word_back hnd hUR hokr
  · rw [hlw, joinW_len _ _ hhl, ← (splitR_st hs).1]
  · rw [hlw]
    have := join_same hs' (layHeads (readG fs rs).objs) fs 0 i h1 hhl
    rw [Nat.zero_add, ← h2] at this
    exact this

end Go.Proofs.Ytjhndbfhiknngaa

/- Plain: an arena as headers and fields; marks. -/
namespace Go.Proofs.Ytjhndbfhiknngaa
set_option linter.unusedSimpArgs false
set_option linter.unusedVariables false
open Go.RowKit

/-- A header's word, with this mark. -/
def reh (b : Bool) (x : Int) : Int := headW (uhL x) b (uhA x)

theorem headE_un (x : Int) : headE (uhL x) (uhA x) = 0 := by
  have h : headOk (uhL x) (uhA x) = true := by
    unfold headOk uhL uhA
    split
    · rename_i h
      simp [unheadOk] at h
      simp
      omega
    · simp
  simp [headE, h]

theorem reh_ok (b : Bool) (x : Int) : unheadOk (reh b x) = true ∧ uhL (reh b x) = uhL x ∧ uhM (reh b x) = b ∧ uhA (reh b x) = uhA x ∧ 0 ≤ reh b x ∧ reh b x < 18446744073709551616 := by
  obtain ⟨h1, h2, h3, h4, h5, h6⟩ := un_head (uhL x) (uhA x) b (headE_un x)
  exact ⟨uh_of_zero h6, h3, h4, h5, h1, h2⟩

theorem reh_reh (b c : Bool) (x : Int) : reh b (reh c x) = reh b x := by
  have := reh_ok c x
  unfold reh at *
  rw [this.2.1, this.2.2.2.1]

theorem reh_self {x : Int} (h1 : 0 ≤ x) (h2 : x < 18446744073709551616) (h : unheadOk x = true) : reh (uhM x) x = x :=
  (head_un x h1 h2 (by simp [uhE, h])).2

theorem reh_wlen {b : Bool} {x : Int} (h : unheadOk x = true) : wlen (reh b x) = wlen x := by
  have h1 := reh_ok b x
  have h2 := uhL_wlen h1.1
  have h3 := uhL_wlen h
  have := h1.2.1
  omega

/-- Headers and fields that fit. -/
structure Fit (hs : List Int) (fs : List (List Int)) : Prop where
  len : hs.length = fs.length
  ok : ∀ (k : Nat) (x : Int) (f : List Int), hs[k]? = some x → fs[k]? = some f → unheadOk x = true ∧ wlen x = f.length ∧ 0 ≤ x ∧ x < 18446744073709551616

theorem split_fit : ∀ (n : Nat) (ws : List Int) (fs : List (List Int)), ws.length ≤ n → U64 ws → splitR ws = some fs → ∃ hs, Fit hs fs ∧ ws = joinW hs fs
  | n, [], fs, _, _, h => by
    rw [splitR_nil] at h
    injection h with h
    subst h
    exact ⟨[], ⟨rfl, by simp⟩, rfl⟩
  | 0, x :: r, fs, hn, _, h => by simp at hn
  | n + 1, x :: r, fs, hn, hU, h => by
    rw [splitR_cons] at h
    split at h
    · rename_i hc
      cases hs : splitR (r.drop (wlen x)) with
      | none => rw [hs] at h; simp at h
      | some gs =>
        rw [hs] at h
        simp only [Option.map_some, Option.some.injEq] at h
        subst h
        obtain ⟨hs', h1, h2⟩ := split_fit n _ gs (by simp at hn ⊢; omega) (U64.drop (fun y hy => hU y (by simp [hy])) _) hs
        refine ⟨x :: hs', ⟨by simp [h1.len], ?_⟩, ?_⟩
        · intro k y f hy hf
          cases k with
          | zero =>
            simp at hy hf
            subst hy hf
            have := hU x (by simp)
            exact ⟨hc.1, by rw [List.length_take]; omega, this.1, this.2⟩
          | succ k => exact h1.ok k y f (by simpa using hy) (by simpa using hf)
        · simp only [joinW, ← h2, List.take_append_drop]
    · cases h

theorem joinW_get : ∀ (hs : List Int) (fs : List (List Int)) (k : Nat), hs.length = fs.length → k < fs.length → (joinW hs fs)[tot (fs.take k)]? = hs[k]?
  | x :: hs, f :: fs, 0, _, _ => by simp [joinW, tot]
  | x :: hs, f :: fs, k + 1, h, hk => by
    have ih := joinW_get hs fs k (by simpa using h) (by simpa using hk)
    rw [List.take_succ_cons, tot_cons, show f.length + 1 + tot (fs.take k) = (f.length + tot (fs.take k)) + 1 from by omega]
    simp only [joinW, List.getElem?_cons_succ]
    rw [List.getElem?_append_right (by omega), show f.length + tot (fs.take k) - f.length = tot (fs.take k) from by omega]
    exact ih
  | _, [], k, _, hk => by simp at hk
  | [], f :: fs, k, h, _ => by simp at h

theorem joinW_set : ∀ (hs : List Int) (fs : List (List Int)) (k : Nat) (y : Int), hs.length = fs.length → k < fs.length → (joinW hs fs).set (tot (fs.take k)) y = joinW (hs.set k y) fs
  | x :: hs, f :: fs, 0, y, _, _ => by simp [joinW, tot]
  | x :: hs, f :: fs, k + 1, y, h, hk => by
    have ih := joinW_set hs fs k y (by simpa using h) (by simpa using hk)
    rw [List.take_succ_cons, tot_cons, show f.length + 1 + tot (fs.take k) = (f.length + tot (fs.take k)) + 1 from by omega]
    simp only [joinW, List.set_cons_succ]
    rw [List.set_append_right _ _ (by omega), show f.length + tot (fs.take k) - f.length = tot (fs.take k) from by omega, ih]
  | _, [], k, y, _, hk => by simp at hk
  | [], f :: fs, k, y, h, _ => by simp at h

theorem joinW_fields : ∀ (hs : List Int) (fs : List (List Int)) (k : Nat) (f : List Int), hs.length = fs.length → fs[k]? = some f → ((joinW hs fs).drop (tot (fs.take k) + 1)).take f.length = f
  | x :: hs, f :: fs, 0, g, _, hk => by
    simp at hk
    subst hk
    simp [joinW, tot]
  | x :: hs, f :: fs, k + 1, g, h, hk => by
    have ih := joinW_fields hs fs k g (by simpa using h) (by simpa using hk)
    rw [List.take_succ_cons, tot_cons, show f.length + 1 + tot (fs.take k) + 1 = (f.length + (tot (fs.take k) + 1)) + 1 from by omega]
    simp only [joinW, List.drop_succ_cons]
    rw [List.drop_append, List.drop_of_length_le (by omega), List.nil_append, show f.length + (tot (fs.take k) + 1) - f.length = tot (fs.take k) + 1 from by omega]
    exact ih
  | _, [], k, g, _, hk => by simp at hk
  | [], f :: fs, k, g, h, _ => by simp at h

/-- Headers, with these marks. -/
def mkH (hs : List Int) (p : Nat → Bool) : List Int := hs.mapIdx fun i x => reh (p i) x

theorem mkH_len (hs : List Int) (p : Nat → Bool) : (mkH hs p).length = hs.length := by simp [mkH]
theorem mkH_get (hs : List Int) (p : Nat → Bool) (k : Nat) : (mkH hs p)[k]? = (hs[k]?).map (reh (p k)) := by simp [mkH, List.getElem?_mapIdx]

/-- One mark more. -/
def upd (p : Nat → Bool) (i : Nat) : Nat → Bool := fun k => k == i || p k

theorem mkH_set {hs : List Int} {p : Nat → Bool} {i : Nat} {x : Int} (h : hs[i]? = some x) : (mkH hs p).set i (reh true x) = mkH hs (upd p i) := by
  apply List.ext_getElem?
  intro k
  rw [List.getElem?_set, mkH_get, mkH_get, mkH_len]
  have hi : i < hs.length := (List.getElem?_eq_some_iff.1 h).1
  by_cases e : i = k
  · subst e
    rw [if_pos rfl, if_pos hi, h]
    simp [upd]
  · rw [if_neg e]
    have : upd p i k = p k := by simp [upd]; omega
    rw [this]

/-- The first k headers without marks. -/
def mkF (hs : List Int) (n : Nat) : List Int := hs.mapIdx fun i x => if i < n then reh false x else x

theorem mkF_len (hs : List Int) (n : Nat) : (mkF hs n).length = hs.length := by simp [mkF]
theorem mkF_get (hs : List Int) (n k : Nat) : (mkF hs n)[k]? = (hs[k]?).map (fun x => if k < n then reh false x else x) := by simp [mkF, List.getElem?_mapIdx]
theorem mkF_zero (hs : List Int) : mkF hs 0 = hs := by
  apply List.ext_getElem?
  intro k
  rw [mkF_get]
  cases hs[k]? <;> simp
theorem mkF_all (hs : List Int) (n : Nat) (h : hs.length ≤ n) : mkF hs n = mkH hs (fun _ => false) := by
  apply List.ext_getElem?
  intro k
  rw [mkF_get, mkH_get]
  cases e : hs[k]? with
  | none => rfl
  | some x =>
    have := (List.getElem?_eq_some_iff.1 e).1
    simp only [Option.map_some]
    rw [if_pos (by omega)]
theorem mkF_set {hs : List Int} {i : Nat} {x : Int} (h : hs[i]? = some x) : (mkF hs i).set i (reh false x) = mkF hs (i + 1) := by
  apply List.ext_getElem?
  intro k
  rw [List.getElem?_set, mkF_get, mkF_get, mkF_len]
  have hi : i < hs.length := (List.getElem?_eq_some_iff.1 h).1
  by_cases e : i = k
  · subst e
    rw [if_pos rfl, if_pos hi, h]
    simp
  · rw [if_neg e]
    cases hs[k]? with
    | none => rfl
    | some y =>
      simp only [Option.map_some]
      congr 1
      by_cases hk : k < i
      · rw [if_pos hk, if_pos (by omega)]
      · rw [if_neg hk, if_neg (by omega)]

theorem fit_mkH {hs : List Int} {fs : List (List Int)} (h : Fit hs fs) (p : Nat → Bool) : Fit (mkH hs p) fs := by
  refine ⟨by rw [mkH_len]; exact h.len, fun k x f hx hf => ?_⟩
  rw [mkH_get] at hx
  cases e : hs[k]? with
  | none => rw [e] at hx; cases hx
  | some y =>
    rw [e] at hx
    simp at hx
    subst hx
    have h1 := h.ok k y f e hf
    have h2 := reh_ok (p k) y
    exact ⟨h2.1, by rw [reh_wlen h1.1]; exact h1.2.1, h2.2.2.2.2.1, h2.2.2.2.2.2⟩

theorem fit_mkF {hs : List Int} {fs : List (List Int)} (h : Fit hs fs) (n : Nat) : Fit (mkF hs n) fs := by
  refine ⟨by rw [mkF_len]; exact h.len, fun k x f hx hf => ?_⟩
  rw [mkF_get] at hx
  cases e : hs[k]? with
  | none => rw [e] at hx; cases hx
  | some y =>
    rw [e] at hx
    simp only [Option.map_some, Option.some.injEq] at hx
    have h1 := h.ok k y f e hf
    split at hx
    · subst hx
      have h2 := reh_ok false y
      exact ⟨h2.1, by rw [reh_wlen h1.1]; exact h1.2.1, h2.2.2.2.2.1, h2.2.2.2.2.2⟩
    · subst hx
      exact h1

theorem fit_split {hs : List Int} {fs : List (List Int)} (h : Fit hs fs) : splitR (joinW hs fs) = some fs :=
  join_split hs fs h.len fun k x f hx hf => ⟨(h.ok k x f hx hf).1, (h.ok k x f hx hf).2.1⟩

/-- Words that refer to object j. -/
def To (fs : List (List Int)) (l : List Int) (j : Nat) : Prop := ∃ x ∈ l, unRef x = true ∧ (stF 0 fs)[j]? = some (unNum x)

/-- What can be come to. -/
def Rch (fs : List (List Int)) (rs : List Int) (j : Nat) : Prop :=
  ∀ P : Nat → Prop, (∀ j, To fs rs j → P j) → (∀ i f j, fs[i]? = some f → P i → To fs f j → P j) → P j

theorem rch_root {fs : List (List Int)} {rs : List Int} {j : Nat} (h : To fs rs j) : Rch fs rs j := fun P h1 _ => h1 j h
theorem rch_step {fs : List (List Int)} {rs : List Int} {i j : Nat} {f : List Int} (hi : Rch fs rs i) (hf : fs[i]? = some f) (h : To fs f j) : Rch fs rs j :=
  fun P h1 h2 => h2 i f j hf (hi P h1 h2) h

/-- An arena that may be. -/
structure Arn (hs : List Int) (fs : List (List Int)) (rs : List Int) : Prop where
  fit : Fit hs fs
  n256 : tot fs ≤ 256
  n8 : rs.length ≤ 8
  ur : U64 rs
  uf : ∀ f ∈ fs, U64 f
  okr : ∀ x ∈ rs, okW (stF 0 fs) x = true
  okf : ∀ f ∈ fs, ∀ x ∈ f, okW (stF 0 fs) x = true

theorem arn_of {ws rs : List Int} (hUW : U64 ws) (hUR : U64 rs) (hE : arenaE ws rs = 0) : ∃ hs fs, Arn hs fs rs ∧ ws = joinW hs fs := by
  have hsz : ws.length ≤ 256 ∧ rs.length ≤ 8 := by
    unfold arenaE at hE
    split at hE
    · omega
    · rename_i h; omega
  cases hs : splitR ws with
  | none =>
    unfold arenaE at hE
    rw [if_neg (by omega), hs] at hE
    simp at hE
  | some fs =>
    have hall : (rs ++ fs.flatten).all (okW (stF 0 fs)) = true := by
      unfold arenaE at hE
      rw [if_neg (by omega), hs] at hE
      simp only at hE
      split at hE
      · assumption
      · omega
    rw [List.all_eq_true] at hall
    obtain ⟨h, h1, h2⟩ := split_fit ws.length ws fs (Nat.le_refl _) hUW hs
    exact ⟨h, fs, ⟨h1, by have := (splitR_st hs).1; omega, hsz.2, hUR, u64_fields hs hUW, fun x hx => hall x (List.mem_append.2 (.inl hx)), fun f hf x hx => hall x (List.mem_append.2 (.inr (List.mem_flatten.2 ⟨f, hf, hx⟩)))⟩, h2⟩

theorem joinW_u64 {hs : List Int} {fs : List (List Int)} {rs : List Int} (h : Arn hs fs rs) {hs' : List Int} (h' : Fit hs' fs) : U64 (joinW hs' fs) := by
  intro x hx
  rcases joinW_mem _ _ x hx with hx | ⟨f, hf, hx⟩
  · obtain ⟨k, hk⟩ := List.getElem?_of_mem hx
    have hlt : k < fs.length := by have := (List.getElem?_eq_some_iff.1 hk).1; have := h'.len; omega
    exact (h'.ok k x _ hk (List.getElem?_eq_getElem hlt)).2.2
  · exact h.uf f hf x hx

theorem Arn.same {hs : List Int} {fs : List (List Int)} {rs : List Int} (h : Arn hs fs rs) {hs' : List Int} (h' : Fit hs' fs) : Arn hs' fs rs := ⟨h', h.n256, h.n8, h.ur, h.uf, h.okr, h.okf⟩

theorem Arn.check {hs : List Int} {fs : List (List Int)} {rs : List Int} (h : Arn hs fs rs) : arenaE (joinW hs fs) rs = 0 := by
  refine arenaE_ok (by rw [joinW_len _ _ h.fit.len]; exact h.n256) h.n8 (fit_split h.fit) ?_
  rw [List.all_eq_true]
  intro x hx
  rcases List.mem_append.1 hx with hx | hx
  · exact h.okr x hx
  · obtain ⟨f, hf, hx⟩ := List.mem_flatten.1 hx
    exact h.okf f hf x hx

theorem ok_ref {st : List Int} {x : Int} (h : okW st x = true) : unErr x = 0 ∧ (unRef x = true → ∃ j : Nat, st[j]? = some (unNum x)) := by
  simp only [okW, Bool.and_eq_true, beq_iff_eq, Bool.or_eq_true, Bool.not_eq_true', decide_eq_true_eq] at h
  refine ⟨h.1, fun hr => ?_⟩
  rcases h.2 with h2 | h2
  · rw [hr] at h2; cases h2
  · exact List.getElem?_of_mem h2

theorem st_inj {fs : List (List Int)} {i j : Nat} {x : Int} (h1 : (stF 0 fs)[i]? = some x) (h2 : (stF 0 fs)[j]? = some x) : i = j :=
  (List.getElem?_inj (List.getElem?_eq_some_iff.1 h1).1 (stF_nodup fs 0)).1 (h1.trans h2.symm)

/-- How many are not marked. -/
def unm (n : Nat) (p : Nat → Bool) : Nat := ((List.range n).filter (fun (i : Nat) => !p i)).length

theorem filter_upd (p : Nat → Bool) (i : Nat) : ∀ (l : List Nat), l.Nodup → i ∈ l → p i = false → (l.filter fun k => !upd p i k).length + 1 = (l.filter fun k => !p k).length
  | [], _, h, _ => by simp at h
  | a :: l, hn, h, hp => by
    rw [List.nodup_cons] at hn
    by_cases e : a = i
    · subst e
      have h1 : (l.filter fun k => !upd p a k) = l.filter fun k => !p k := by
        apply List.filter_congr
        intro k hk
        have : k ≠ a := fun e => hn.1 (e ▸ hk)
        simp [upd, this]
      simp [List.filter_cons, hp, upd]
      have h2 : (l.filter fun k => !(k == a) && !p k) = l.filter fun k => !p k := by
        apply List.filter_congr
        intro k hk
        have : k ≠ a := fun e => hn.1 (e ▸ hk)
        simp [this]
      rw [h2]
    · have hm : i ∈ l := by simpa [Ne.symm e] using h
      have ih := filter_upd p i l hn.2 hm hp
      have ea : upd p i a = p a := by simp [upd, e]
      simp only [List.filter_cons, ea]
      split
      · simp only [List.length_cons]; omega
      · exact ih

theorem unm_upd {n : Nat} {p : Nat → Bool} {i : Nat} (hi : i < n) (hp : p i = false) : unm n (upd p i) + 1 = unm n p :=
  filter_upd p i _ List.nodup_range (List.mem_range.2 hi) hp

theorem upd_le {p : Nat → Bool} {i k : Nat} (h : p k = true) : upd p i k = true := by simp [upd, h]
theorem upd_self (p : Nat → Bool) (i : Nat) : upd p i i = true := by simp [upd]
theorem upd_inv {p : Nat → Bool} {i k : Nat} (h : upd p i k = true) : k = i ∨ p k = true := by simpa [upd] using h

/-- Is all that an object refers to marked? -/
def Cl (fs : List (List Int)) (p : Nat → Bool) (i : Nat) : Prop := ∀ f j, fs[i]? = some f → To fs f j → p j = true

theorem Cl.upd {fs : List (List Int)} {p : Nat → Bool} {i k : Nat} (h : Cl fs p k) : Cl fs (upd p i) k := fun f j hf ht => upd_le (h f j hf ht)

/-- All is marked that can be come to. -/
theorem marked_all {fs : List (List Int)} {rs : List Int} {p : Nat → Bool} (h1 : ∀ j, p j = true → Rch fs rs j) (h2 : ∀ j, To fs rs j → p j = true) (h3 : ∀ i, p i = true → Cl fs p i) (j : Nat) : p j = true ↔ Rch fs rs j :=
  ⟨h1 j, fun h => h (fun j => p j = true) h2 (fun i f j hf hi ht => h3 i hi f j hf ht)⟩

end Go.Proofs.Ytjhndbfhiknngaa

/- What a marker holds, in memory. -/
namespace Go.Proofs.Ytjhndbfhiknngaa
set_option linter.unusedSimpArgs false
set_option linter.unusedVariables false
open Go.RowKit Go.Shelf

theorem grown_set (W : World) (b j : Nat) (u : Value) : W.grownBy (W.setCell ⟨b, j, none⟩ u) (some b) :=
  ⟨rfl, rfl, rfl, by simp [World.setCell], fun k _ hk => Below.heap_setCell _ _ _ _ (fun e => hk (by simp [e]))⟩

theorem ty_set {W : World} {mb : Nat} {t : TypeId} (h : ∃ cs, W.heap[mb]? = some (.cells cs t)) (j : Nat) (u : Value) : ∃ cs, (W.setCell ⟨mb, j, none⟩ u).heap[mb]? = some (.cells cs t) := by
  obtain ⟨cs, h⟩ := h
  exact ⟨_, heap_setCell_same W mb j cs t u h⟩

/-- Blocks of other types than words, numbers and markers are as they were. -/
def KeepT (W W' : World) : Prop := ∀ (k : Nat) (cs : Array Value) (t : TypeId), W.heap[k]? = some (.cells cs t) → t ≠ 55 → t ≠ 3 → t ≠ 64 → W'.heap[k]? = some (.cells cs t)

theorem KeepT.trans {a b c : World} (h : KeepT a b) (h' : KeepT b c) : KeepT a c := fun k cs t hk h1 h2 h3 => h' k cs t (h k cs t hk h1 h2 h3) h1 h2 h3
theorem KeepT.refl (W : World) : KeepT W W := fun k cs t hk _ _ _ => hk
theorem KeepT.below {W W' : World} (h : Below W.heap.size W W') : KeepT W W' := fun k cs t hk _ _ _ => by rw [h.block k (Array.getElem?_eq_some_iff.1 hk).1]; exact hk
theorem KeepT.alloc {a W : World} (h : KeepT a W) (o : Obj) : KeepT a (W.alloc o) := h.trans (KeepT.below ((Below.refl _ _).alloc (Nat.le_refl _) _))
theorem KeepT.setCell {a W : World} (h : KeepT a W) {b j : Nat} {t : TypeId} (hb : ∃ cs, W.heap[b]? = some (.cells cs t)) (ht : t = 55 ∨ t = 3 ∨ t = 64) (u : Value) : KeepT a (W.setCell ⟨b, j, none⟩ u) := by
  refine h.trans fun k cs t' hk h1 h2 h3 => ?_
  obtain ⟨cs', hb⟩ := hb
  rw [Below.heap_setCell _ _ _ _ ?_]
  · exact hk
  · intro e
    subst e
    rw [hk] at hb
    injection hb with hb
    injection hb with _ hb
    subst hb
    rcases ht with ht | ht | ht
    · exact h1 ht
    · exact h2 ht
    · exact h3 ht
theorem KeepT.grown {a W W' : World} (h : KeepT a W) {base n : Nat} {t : TypeId} {size : Nat} {v : Value} {xs : List Value} (hr : W.ownsRow base t size v n xs) (hg : W.grownBy W' v.ownBlock) (ht : t = 55 ∨ t = 3 ∨ t = 64) : KeepT a W' := by
  refine h.trans fun k cs t' hk h1 h2 h3 => ?_
  rw [hg.block k (Array.getElem?_eq_some_iff.1 hk).1 ?_]
  · exact hk
  · intro e
    rcases hr.2 with ⟨rfl, _⟩ | ⟨g, cap, cur, rfl, _, hb, _⟩
    · simp [Value.ownBlock] at e
    · obtain rfl : k = g := by simpa [Value.ownBlock] using e
      rw [hk] at hb
      injection hb with hb
      injection hb with _ hb
      subst hb
      rcases ht with ht | ht | ht
      · exact h1 ht
      · exact h2 ht
      · exact h3 ht
theorem ty_row {W : World} {base n cap g : Nat} {t : TypeId} {size : Nat} {xs : List Value} (hr : W.ownsRow base t size (.slice (some ⟨g, 0, none⟩) n cap) n xs) : ∃ cs, W.heap[g]? = some (.cells cs t) := by
  rcases hr.2 with ⟨h, _⟩ | ⟨g', cap', cur, h, _, hb, _⟩
  · cases h
  · cases h
    exact ⟨cur, hb⟩

/-- The five cells of a marker. -/
structure MBox (W : World) (mb : Nat) (vw vr : Value) (room : Nat) (vk : Value) (lost : Bool) : Prop where
  c0 : W.cell? ⟨mb, 0, none⟩ = some vw
  c1 : W.cell? ⟨mb, 1, none⟩ = some vr
  c2 : W.cell? ⟨mb, 2, none⟩ = some (.int .i64 room)
  c3 : W.cell? ⟨mb, 3, none⟩ = some vk
  c4 : W.cell? ⟨mb, 4, none⟩ = some (.bool lost)
  fr : ∀ j, W.frozen? ⟨mb, j, none⟩ = false
  ty : ∃ cs, W.heap[mb]? = some (.cells cs 64)

theorem MBox.kept {W W' : World} {mb : Nat} {vw vr vk : Value} {room : Nat} {lost : Bool} (h : MBox W mb vw vr room vk lost) (hb : W'.heap[mb]? = W.heap[mb]?) : MBox W' mb vw vr room vk lost :=
  ⟨(World.cell?_of_block (a := ⟨mb, 0, none⟩) hb).trans h.c0, (World.cell?_of_block (a := ⟨mb, 1, none⟩) hb).trans h.c1, (World.cell?_of_block (a := ⟨mb, 2, none⟩) hb).trans h.c2, (World.cell?_of_block (a := ⟨mb, 3, none⟩) hb).trans h.c3, (World.cell?_of_block (a := ⟨mb, 4, none⟩) hb).trans h.c4,
    fun j => (World.frozen?_of_block (a := ⟨mb, j, none⟩) hb).trans (h.fr j), by rw [hb]; exact h.ty⟩

theorem MBox.lt {W : World} {mb : Nat} {vw vr vk : Value} {room : Nat} {lost : Bool} (h : MBox W mb vw vr room vk lost) : mb < W.heap.size := World.block_lt_of_cell? W _ h.c0

theorem MBox.set0 {W : World} {mb : Nat} {vw vr vk : Value} {room : Nat} {lost : Bool} (h : MBox W mb vw vr room vk lost) (v : Value) : MBox (W.setCell ⟨mb, 0, none⟩ v) mb v vr room vk lost := by
  refine ⟨World.cell?_setCell_same' _ _ _ (by rw [h.c0]; rfl), ?_, ?_, ?_, ?_, fun j => by rw [World.frozen?_setCell]; exact h.fr j, ty_set h.ty _ _⟩
  · rw [World.cell?_setCell_other _ _ _ _ (by simp)]; exact h.c1
  · rw [World.cell?_setCell_other _ _ _ _ (by simp)]; exact h.c2
  · rw [World.cell?_setCell_other _ _ _ _ (by simp)]; exact h.c3
  · rw [World.cell?_setCell_other _ _ _ _ (by simp)]; exact h.c4

theorem MBox.set1 {W : World} {mb : Nat} {vw vr vk : Value} {room : Nat} {lost : Bool} (h : MBox W mb vw vr room vk lost) (v : Value) : MBox (W.setCell ⟨mb, 1, none⟩ v) mb vw v room vk lost := by
  refine ⟨?_, World.cell?_setCell_same' _ _ _ (by rw [h.c1]; rfl), ?_, ?_, ?_, fun j => by rw [World.frozen?_setCell]; exact h.fr j, ty_set h.ty _ _⟩
  · rw [World.cell?_setCell_other _ _ _ _ (by simp)]; exact h.c0
  · rw [World.cell?_setCell_other _ _ _ _ (by simp)]; exact h.c2
  · rw [World.cell?_setCell_other _ _ _ _ (by simp)]; exact h.c3
  · rw [World.cell?_setCell_other _ _ _ _ (by simp)]; exact h.c4

theorem MBox.set3 {W : World} {mb : Nat} {vw vr vk : Value} {room : Nat} {lost : Bool} (h : MBox W mb vw vr room vk lost) (v : Value) : MBox (W.setCell ⟨mb, 3, none⟩ v) mb vw vr room v lost := by
  refine ⟨?_, ?_, ?_, World.cell?_setCell_same' _ _ _ (by rw [h.c3]; rfl), ?_, fun j => by rw [World.frozen?_setCell]; exact h.fr j, ty_set h.ty _ _⟩
  · rw [World.cell?_setCell_other _ _ _ _ (by simp)]; exact h.c0
  · rw [World.cell?_setCell_other _ _ _ _ (by simp)]; exact h.c1
  · rw [World.cell?_setCell_other _ _ _ _ (by simp)]; exact h.c2
  · rw [World.cell?_setCell_other _ _ _ _ (by simp)]; exact h.c4

theorem MBox.set4 {W : World} {mb : Nat} {vw vr vk : Value} {room : Nat} {lost : Bool} (h : MBox W mb vw vr room vk lost) (b : Bool) : MBox (W.setCell ⟨mb, 4, none⟩ (.bool b)) mb vw vr room vk b := by
  refine ⟨?_, ?_, ?_, ?_, World.cell?_setCell_same' _ _ _ (by rw [h.c4]; rfl), fun j => by rw [World.frozen?_setCell]; exact h.fr j, ty_set h.ty _ _⟩
  · rw [World.cell?_setCell_other _ _ _ _ (by simp)]; exact h.c0
  · rw [World.cell?_setCell_other _ _ _ _ (by simp)]; exact h.c1
  · rw [World.cell?_setCell_other _ _ _ _ (by simp)]; exact h.c2
  · rw [World.cell?_setCell_other _ _ _ _ (by simp)]; exact h.c3

/-- A marker: its words, its roots, the places that are kept. -/
structure Mk (W : World) (N mb : Nat) (vw vr vk : Value) (ws rs K : List Int) (room : Nat) (lost : Bool) : Prop where
  box : MBox W mb vw vr room vk lost
  lo : N ≤ mb
  wo : W.ownsRow N 55 1 vw ws.length (wordsV ws)
  ro : W.ownsRow N 55 1 vr rs.length (wordsV rs)
  ko : W.ownsRow N 3 1 vk K.length (intsV K)
  aw : vw.ownBlock ≠ some mb
  ar : vr.ownBlock ≠ some mb
  ak : vk.ownBlock ≠ some mb
  wr : ∀ k, vw.ownBlock = some k → vr.ownBlock ≠ some k
  wk : ∀ k, vw.ownBlock = some k → vk.ownBlock ≠ some k
  rk : ∀ k, vr.ownBlock = some k → vk.ownBlock ≠ some k

theorem or_ne {v : Value} {k : Nat} (h : v.ownBlock ≠ some k) : v.ownBlock = none ∨ v.ownBlock ≠ some k := .inr h

theorem Mk.below {W W' : World} {N mb : Nat} {vw vr vk : Value} {ws rs K : List Int} {room : Nat} {lost : Bool} (h : Mk W N mb vw vr vk ws rs K room lost) (hb : Below W.heap.size W W') : Mk W' N mb vw vr vk ws rs K room lost :=
  ⟨h.box.kept (hb.block _ h.box.lt), h.lo, ownsRow_below h.wo hb, ownsRow_below h.ro hb, ownsRow_below h.ko hb, h.aw, h.ar, h.ak, h.wr, h.wk, h.rk⟩

theorem Mk.alloc {W : World} {N mb : Nat} {vw vr vk : Value} {ws rs K : List Int} {room : Nat} {lost : Bool} (h : Mk W N mb vw vr vk ws rs K room lost) (o : Obj) : Mk (W.alloc o) N mb vw vr vk ws rs K room lost :=
  h.below ((Below.refl _ _).alloc (Nat.le_refl _) _)

/-- Behind a store of a word. -/
theorem Mk.setW {W : World} {N mb wb cap n : Nat} {vr vk : Value} {ws rs K : List Int} {room : Nat} {lost : Bool} (h : Mk W N mb (.slice (some ⟨wb, 0, none⟩) n cap) vr vk ws rs K room lost) (hn : n = ws.length) (j : Nat) (y : Int) :
    Mk (W.setCell ⟨wb, j, none⟩ (.int .u64 y)) N mb (.slice (some ⟨wb, 0, none⟩) n cap) vr vk (ws.set j y) rs K room lost := by
  subst hn
  have hg := grown_set W wb j (.int .u64 y)
  have e : wordsV (ws.set j y) = (wordsV ws).set j (.int .u64 y) := by simp [wordsV, List.map_set]
  refine ⟨h.box.kept (hg.block _ h.box.lt (fun e => h.aw e.symm)), h.lo, ?_, h.ro.kept hg (or_ne (h.wr wb rfl)), h.ko.kept hg (or_ne (h.wk wb rfl)), h.aw, h.ar, h.ak, h.wr, h.wk, h.rk⟩
  rw [e, List.length_set]
  exact (h.wo.stored j (.int .u64 y)).1

/-- Behind a store of whether something was lost. -/
theorem Mk.setL {W : World} {N mb : Nat} {vw vr vk : Value} {ws rs K : List Int} {room : Nat} {lost : Bool} (h : Mk W N mb vw vr vk ws rs K room lost) (b : Bool) : Mk (W.setCell ⟨mb, 4, none⟩ (.bool b)) N mb vw vr vk ws rs K room b := by
  have hg := grown_set W mb 4 (.bool b)
  exact ⟨h.box.set4 b, h.lo, h.wo.kept hg (or_ne h.aw), h.ro.kept hg (or_ne h.ar), h.ko.kept hg (or_ne h.ak), h.aw, h.ar, h.ak, h.wr, h.wk, h.rk⟩

/-- Behind a store of the kept places. -/
theorem Mk.setK {W : World} {N mb : Nat} {vw vr vk vk' : Value} {ws rs K' : List Int} {room : Nat} {lost : Bool} (h : MBox W mb vw vr room vk lost) (lo : N ≤ mb) (wo : W.ownsRow N 55 1 vw ws.length (wordsV ws)) (ro : W.ownsRow N 55 1 vr rs.length (wordsV rs))
    (ko : W.ownsRow N 3 1 vk' K'.length (intsV K')) (aw : vw.ownBlock ≠ some mb) (ar : vr.ownBlock ≠ some mb) (ak : vk'.ownBlock ≠ some mb) (wr : ∀ k, vw.ownBlock = some k → vr.ownBlock ≠ some k) (wk : ∀ k, vw.ownBlock = some k → vk'.ownBlock ≠ some k) (rk : ∀ k, vr.ownBlock = some k → vk'.ownBlock ≠ some k) :
    Mk (W.setCell ⟨mb, 3, none⟩ vk') N mb vw vr vk' ws rs K' room lost := by
  have hg := grown_set W mb 3 vk'
  exact ⟨h.set3 vk', lo, wo.kept hg (or_ne aw), ro.kept hg (or_ne ar), ko.kept hg (or_ne ak), aw, ar, ak, wr, wk, rk⟩

/-- One place less. -/
theorem Mk.pop {W : World} {N mb g cap n : Nat} {vw vr : Value} {ws rs K : List Int} {x : Int} {room : Nat} {lost : Bool} (h : Mk W N mb vw vr (.slice (some ⟨g, 0, none⟩) (n + 1) cap) ws rs (K ++ [x]) room lost) (hn : K.length = n) :
    Mk (W.setCell ⟨mb, 3, none⟩ (.slice (some ⟨g, 0, none⟩) n cap)) N mb vw vr (.slice (some ⟨g, 0, none⟩) n cap) ws rs K room lost := by
  refine Mk.setK h.box h.lo h.wo h.ro ?_ h.aw h.ar h.ak h.wr h.wk h.rk
  have := h.ko
  rw [intsV_snoc, List.length_append] at this
  subst hn
  exact ownsRow_pop (by simp [intsV]) this

/-- One place more: behind the append and the store. -/
theorem Mk.push {W w1 : World} {N mb : Nat} {vw vr vk v' : Value} {ws rs K : List Int} {x : Int} {room : Nat} {lost : Bool} (h : Mk W N mb vw vr vk ws rs K room lost) (hrow : w1.ownsRow N 3 1 v' (K.length + 1) (intsV K ++ [.int .i64 x])) (hg : W.grownBy w1 vk.ownBlock)
    (hat : v'.ownBlock = vk.ownBlock ∨ v'.ownBlock = some W.heap.size) : MBox w1 mb vw vr room vk lost ∧ Mk (w1.setCell ⟨mb, 3, none⟩ v') N mb vw vr v' ws rs (K ++ [x]) room lost := by
  have hbox : MBox w1 mb vw vr room vk lost := h.box.kept (hg.block _ h.box.lt (fun e => h.ak e.symm))
  have apart : ∀ {u : Value}, (∀ k, u.ownBlock = some k → k < W.heap.size) → (∀ k, u.ownBlock = some k → vk.ownBlock ≠ some k) → ∀ k, u.ownBlock = some k → v'.ownBlock ≠ some k := by
    intro u h1 h2 k hk e
    rcases hat with h | h
    · exact h2 k hk (h ▸ e)
    · rw [h] at e; injection e with e; have := h1 k hk; omega
  refine ⟨hbox, Mk.setK hbox h.lo (h.wo.kept hg ?_) (h.ro.kept hg ?_) ?_ h.aw h.ar ?_ h.wr (apart (fun k hk => (h.wo.lt k hk).2) h.wk) (apart (fun k hk => (h.ro.lt k hk).2) h.rk)⟩
  · cases hv : vw.ownBlock with
    | none => exact .inl rfl
    | some k => exact .inr fun e => h.wk k hv e.symm
  · cases hv : vr.ownBlock with
    | none => exact .inl rfl
    | some k => exact .inr fun e => h.rk k hv e.symm
  · rw [intsV_snoc, List.length_append]; exact hrow
  · rcases hat with h1 | h1
    · rw [h1]; exact h.ak
    · rw [h1]; intro e; injection e with e; have := h.box.lt; omega

/-- The words, where there are some. -/
theorem Mk.words {W : World} {N mb : Nat} {vw vr vk : Value} {ws rs K : List Int} {room : Nat} {lost : Bool} (h : Mk W N mb vw vr vk ws rs K room lost) (hne : 0 < ws.length) : ∃ wb cap, vw = .slice (some ⟨wb, 0, none⟩) ws.length cap ∧ N ≤ wb ∧ wb < W.heap.size ∧ ws.length ≤ cap := by
  rcases h.wo.2 with ⟨_, h0⟩ | ⟨g, cap, cur, hv, h1, h2, h3, h4, h5, h6⟩
  · omega
  · exact ⟨g, cap, hv, h1, (Array.getElem?_eq_some_iff.1 h2).1, h3⟩

theorem Mk.wcell {W : World} {N mb wb cap n : Nat} {vr vk : Value} {ws rs K : List Int} {room : Nat} {lost : Bool} (h : Mk W N mb (.slice (some ⟨wb, 0, none⟩) n cap) vr vk ws rs K room lost) (hn : n = ws.length) {j : Nat} {x : Int} (hx : ws[j]? = some x) :
    W.cell? ⟨wb, j, none⟩ = some (.int .u64 x) ∧ W.frozen? ⟨wb, j, none⟩ = false := by
  subst hn
  have hlt := (List.getElem?_eq_some_iff.1 hx).1
  refine ⟨?_, h.wo.frozenAt j⟩
  rw [h.wo.cellAt j (by omega)]
  simp [wordsV, hx]

theorem Mk.wds {W : World} {N mb : Nat} {vw vr vk : Value} {ws rs K : List Int} {room : Nat} {lost : Bool} (h : Mk W N mb vw vr vk ws rs K room lost) (hs : ws.length ≤ 256) : ∃ a cap, vw = .slice a ws.length cap ∧ Wds W.heap.size W a ws ∧ ws.length ≤ cap := by
  obtain ⟨a, cap, hv, hW, _⟩ := words_of_owns h.wo rfl (by omega)
  refine ⟨a, cap, hv, hW, ?_⟩
  rcases h.wo.2 with ⟨_, h0⟩ | ⟨g, cap', cur, hv', h1, h2, h3, h4, h5, h6⟩
  · omega
  · rw [hv] at hv'; injection hv' with _ _ e; omega

theorem Mk.rds {W : World} {N mb : Nat} {vw vr vk : Value} {ws rs K : List Int} {room : Nat} {lost : Bool} (h : Mk W N mb vw vr vk ws rs K room lost) (hs : rs.length ≤ 8) : ∃ a cap, vr = .slice a rs.length cap ∧ Wds W.heap.size W a rs := by
  obtain ⟨a, cap, hv, hW, _⟩ := words_of_owns h.ro rfl (by omega)
  exact ⟨a, cap, hv, hW⟩

/-- The last place that is kept. -/
theorem Mk.last {W : World} {N mb : Nat} {vw vr vk : Value} {ws rs K : List Int} {x : Int} {room : Nat} {lost : Bool} (h : Mk W N mb vw vr vk ws rs (K ++ [x]) room lost) : ∃ g cap, vk = .slice (some ⟨g, 0, none⟩) (K.length + 1) cap ∧ K.length + 1 ≤ cap ∧ g < W.heap.size ∧ W.cell? ⟨g, K.length, none⟩ = some (.int .i64 x) := by
  have hk := h.ko
  rw [List.length_append, List.length_singleton] at hk
  obtain ⟨g, cap, hv⟩ := ownsRow_succ hk
  subst hv
  have hb := hk.2
  rcases hb with ⟨h0, _⟩ | ⟨g', cap', cur, hv', h1, h2, h3, h4, h5, h6⟩
  · cases h0
  · refine ⟨g, cap, rfl, ?_, (hk.lt g rfl).2, ?_⟩
    · injection hv' with _ _ e; omega
    · rw [hk.cellAt K.length (by omega)]; simp [intsV]

end Go.Proofs.Ytjhndbfhiknngaa

/- Walks: header, set, fields. -/
namespace Go.Proofs.Ytjhndbfhiknngaa
set_option linter.unusedSimpArgs false
set_option linter.unusedVariables false
open Go.RowKit Go.Shelf

/-- A field of a header that a call told. -/
theorem field51_0 (l a : Int) (m : Bool) (w : World) : Sem.run Try.prog (Instr.field 51 (.agg #[.int .i64 l, .bool m, .int .i64 a]) 0) w = Result.ok (.int .i64 l) w := by
  simp [Instr.field, asAgg, go_sem, Try.underlying51]
theorem field51_1 (l a : Int) (m : Bool) (w : World) : Sem.run Try.prog (Instr.field 51 (.agg #[.int .i64 l, .bool m, .int .i64 a]) 1) w = Result.ok (.bool m) w := by
  simp [Instr.field, asAgg, go_sem, Try.underlying51]

set_option maxRecDepth 100000 in
set_option maxHeartbeats 1000000 in
theorem header_c (mb wb n cap p : Nat) (x : Int) (w : World) (h0 : w.cell? ⟨mb, 0, none⟩ = some (.slice (some ⟨wb, 0, none⟩) n cap)) (hx : w.cell? ⟨wb, p, none⟩ = some (.int .u64 x)) (hp : p < n) (hn : n ≤ 256) (h1 : 0 ≤ x) (h2 : x < 18446744073709551616) :
    Calls Try.prog 54 #[.pointer (some ⟨mb, 0, none⟩), .int .i64 (p : Nat)] w fun e w' => e = .returned (.agg #[.int .i64 (uhL x), .bool (uhM x), .int .i64 (uhA x)]) ∧ Below w.heap.size w w' := by
  have hb0 : Below w.heap.size w (w.alloc (.cells #[.int .i64 0, .bool false, .int .i64 0] 51)) := (Below.refl _ _).alloc (Nat.le_refl _) _
  have hlm : mb < w.heap.size := World.block_lt_of_cell? w _ h0
  have hlw : wb < w.heap.size := World.block_lt_of_cell? w _ hx
  have hpI : (p : Int) < (n : Int) := by omega
  go_enter Try.func54, Try.ntmps54
  go_wp2_with fail
  refine (unhead_c x _ h1 h2).mono ?_
  rintro e w2 ⟨rfl, hb2⟩
  simp only [World.size_alloc] at hb2
  have g0 := hb2.cell (p := ⟨w.heap.size, 0, none⟩) (show w.heap.size < _ by omega)
  have g1 := hb2.cell (p := ⟨w.heap.size, 1, none⟩) (show w.heap.size < _ by omega)
  have g2 := hb2.cell (p := ⟨w.heap.size, 2, none⟩) (show w.heap.size < _ by omega)
  have f0 := hb2.frozen (p := ⟨w.heap.size, 0, none⟩) (show w.heap.size < _ by omega)
  have f1 := hb2.frozen (p := ⟨w.heap.size, 1, none⟩) (show w.heap.size < _ by omega)
  have f2 := hb2.frozen (p := ⟨w.heap.size, 2, none⟩) (show w.heap.size < _ by omega)
  simp [go_sem] at g0 g1 g2 f0 f1 f2
  have hs2 := hb2.size
  simp only [World.size_alloc] at hs2
  have hlt2 : w.heap.size < w2.heap.size := by omega
  have hbw2 := hb0.trans (hb2.mono (by omega))
  clear hb0 hb2
  go_wp2
  obtain ⟨W3, hW3⟩ : ∃ W3, ((w2.setCell ⟨w.heap.size, 0, none⟩ (.int .i64 (uhL x))).setCell ⟨w.heap.size, 1, none⟩ (.bool (uhM x))).setCell ⟨w.heap.size, 2, none⟩ (.int .i64 (uhA x)) = W3 := ⟨_, rfl⟩
  have i0 : W3.cell? ⟨w.heap.size, 0, none⟩ = some (.int .i64 (uhL x)) := by rw [← hW3]; simp [go_sem, g0, g1, g2]
  have i1 : W3.cell? ⟨w.heap.size, 1, none⟩ = some (.bool (uhM x)) := by rw [← hW3]; simp [go_sem, g0, g1, g2]
  have i2 : W3.cell? ⟨w.heap.size, 2, none⟩ = some (.int .i64 (uhA x)) := by rw [← hW3]; simp [go_sem, g0, g1, g2]
  have hlt3 : w.heap.size < W3.heap.size := by rw [← hW3]; simpa [World.setCell] using hlt2
  have hb3 : Below w.heap.size w W3 := by rw [← hW3]; exact ((hbw2.setCell (p := ⟨w.heap.size, 0, none⟩) (Nat.le_refl _) _).setCell (p := ⟨w.heap.size, 1, none⟩) (Nat.le_refl _) _).setCell (p := ⟨w.heap.size, 2, none⟩) (Nat.le_refl _) _
  rw [hW3]
  clear hW3
  obtain ⟨W4, hW4⟩ : ∃ W4, W3.alloc (.cells #[.int .i64 (uhL x), .bool (uhM x), .int .i64 (uhA x)] 51) = W4 := ⟨_, rfl⟩
  rw [hW4]
  have hb4 : Below w.heap.size w W4 := by rw [← hW4]; exact hb3.alloc (by omega) _
  have k0 : W4.cell? ⟨w.heap.size, 0, none⟩ = some (.int .i64 (uhL x)) := by rw [← hW4, World.cell?_alloc_past _ _ _ hlt3]; exact i0
  have k1 : W4.cell? ⟨w.heap.size, 1, none⟩ = some (.bool (uhM x)) := by rw [← hW4, World.cell?_alloc_past _ _ _ hlt3]; exact i1
  have k2 : W4.cell? ⟨w.heap.size, 2, none⟩ = some (.int .i64 (uhA x)) := by rw [← hW4, World.cell?_alloc_past _ _ _ hlt3]; exact i2
  refine bodyPost_ret (v := .agg #[.int .i64 (uhL x), .bool (uhM x), .int .i64 (uhA x)]) (by simp [results, Try.results54, go_sem, k0, k1, k2]) rfl ?_
  exact ⟨rfl, hb4⟩

set_option maxRecDepth 100000 in
set_option maxHeartbeats 2000000 in
theorem set_w (mb wb n cap p : Nat) (x L A : Int) (M b : Bool) (w : World) (h0 : w.cell? ⟨mb, 0, none⟩ = some (.slice (some ⟨wb, 0, none⟩) n cap)) (hx : w.cell? ⟨wb, p, none⟩ = some (.int .u64 x)) (hf : w.frozen? ⟨wb, p, none⟩ = false) (hp : p < n) (hn : n ≤ 256) :
    Calls Try.prog 40 #[.pointer (some ⟨mb, 0, none⟩), .int .i64 (p : Nat), .agg #[.int .i64 L, .bool M, .int .i64 A], .bool b] w fun e w' => e = .returned (.tuple #[]) ∧ ∃ w1, Below w.heap.size w w1 ∧ w' = w1.setCell ⟨wb, p, none⟩ (.int .u64 (headW L b A)) := by
  have hlm : mb < w.heap.size := World.block_lt_of_cell? w _ h0
  have hlw : wb < w.heap.size := World.block_lt_of_cell? w _ hx
  have hpI : (p : Int) < (n : Int) := by omega
  have hb0 : Below w.heap.size w (w.alloc (.cells #[.int .i64 L, .bool b, .int .i64 A] 51)) := (Below.refl _ _).alloc (Nat.le_refl _) _
  go_enter Try.func40, Try.ntmps40
  go_wp2
  go_region_with (go_at_call 52; go_must (refine (head_c L A b _).mono ?_); go_must (rintro e w2 ⟨he, hb2⟩; subst he; have k0 := (hb2.cell (p := ⟨mb, 0, none⟩) (by simp; omega)).trans ((hb0.cell (p := ⟨mb, 0, none⟩) hlm).trans h0); have kx := (hb2.cell (p := ⟨wb, p, none⟩) (by simp; omega)).trans ((hb0.cell (p := ⟨wb, p, none⟩) hlw).trans hx); have kf := (hb2.frozen (p := ⟨wb, p, none⟩) (by simp; omega)).trans ((hb0.frozen (p := ⟨wb, p, none⟩) hlw).trans hf)))
  all_goals
    refine bodyPost_end (v := .tuple #[]) (results_none rfl _ _ _) rfl ⟨rfl, _, ?_, rfl⟩
    exact hb0.drew.trans (hb2.mono (by show w.heap.size ≤ (w.heap.push _).size; simp))

end Go.Proofs.Ytjhndbfhiknngaa

/- Walks: fields. -/
namespace Go.Proofs.Ytjhndbfhiknngaa
set_option linter.unusedSimpArgs false
set_option linter.unusedVariables false
open Go.RowKit Go.Shelf
attribute [local go_sem] field51_0 field51_1

def FldRes (wb p l : Nat) (e : Ending) : Prop := ∃ a c, e = .returned (.slice a l c) ∧ (0 < l → a = some ⟨wb, p + 1, none⟩)

set_option maxRecDepth 100000 in
set_option maxHeartbeats 2000000 in
theorem fields_c (mb wb n cap p : Nat) (x : Int) (w : World) (h0 : w.cell? ⟨mb, 0, none⟩ = some (.slice (some ⟨wb, 0, none⟩) n cap)) (hx : w.cell? ⟨wb, p, none⟩ = some (.int .u64 x)) (hn : n ≤ 256) (hcap : n ≤ cap) (h1 : 0 ≤ x) (h2 : x < 18446744073709551616)
    (hk : unheadOk x = true) (hend : p + 1 + wlen x ≤ n) :
    Calls Try.prog 55 #[.pointer (some ⟨mb, 0, none⟩), .int .i64 (p : Nat)] w fun e w' => FldRes wb p (wlen x) e ∧ Below w.heap.size w w' := by
  have hlm : mb < w.heap.size := World.block_lt_of_cell? w _ h0
  have hlw : wb < w.heap.size := World.block_lt_of_cell? w _ hx
  have HL := hide (uhL_wlen hk)
  have hp : p < n := by omega
  have h4 := wlen_le hk
  have Hh := hide (header_c mb wb n cap p x w.drew h0 hx hp hn h1 h2)
  have w1 : IntKind.i64.wrap ((p : Int) + 1) = (p : Int) + 1 := by rw [IntKind.wrap_i64]; omega
  clear hk
  generalize wlen x = l at *
  by_cases hcp : cap = p + 1
  · subst hcp
    obtain rfl : l = 0 := by omega
    go_enter Try.func55, Try.ntmps55
    go_wp2
    go_region_with (go_at_call 54; go_must (refine (unhide Hh).mono ?_); go_must (rintro e w2 ⟨he, hb2⟩; rw [unhide HL] at he; subst he; have k0 := (hb2.cell (p := ⟨mb, 0, none⟩) hlm).trans h0))
    all_goals
      go_wp2
      go_ret
      exact ⟨⟨_, _, rfl, fun h => absurd h (by omega)⟩, (Below.refl _ w).drew.trans hb2⟩
  · have hcp1 : p + 1 < cap := by omega
    go_enter Try.func55, Try.ntmps55
    go_wp2
    go_region_with (go_at_call 54; go_must (refine (unhide Hh).mono ?_); go_must (rintro e w2 ⟨he, hb2⟩; rw [unhide HL] at he; subst he; have k0 := (hb2.cell (p := ⟨mb, 0, none⟩) hlm).trans h0))
    all_goals
      go_wp2
      go_ret
      exact ⟨⟨_, _, rfl, fun _ => by simp⟩, (Below.refl _ w).drew.trans hb2⟩

end Go.Proofs.Ytjhndbfhiknngaa

/- Walks: unmarked. -/
namespace Go.Proofs.Ytjhndbfhiknngaa
set_option linter.unusedSimpArgs false
set_option linter.unusedVariables false
open Go.RowKit Go.Shelf
attribute [local go_sem] field51_0 field51_1

/-- The arena that is being marked: its headers with these marks. -/
def mW (hs : List Int) (fs : List (List Int)) (p : Nat → Bool) : List Int := joinW (mkH hs p) fs

theorem mW_len {hs : List Int} {fs : List (List Int)} (h : Fit hs fs) (p : Nat → Bool) : (mW hs fs p).length = tot fs := by
  rw [mW, joinW_len _ _ (by rw [mkH_len]; exact h.len)]

theorem mW_get {hs : List Int} {fs : List (List Int)} (h : Fit hs fs) (p : Nat → Bool) {i : Nat} {x : Int} (hx : hs[i]? = some x) : (mW hs fs p)[tot (fs.take i)]? = some (reh (p i) x) := by
  have hi : i < fs.length := by have := (List.getElem?_eq_some_iff.1 hx).1; have := h.len; omega
  rw [mW, joinW_get _ _ _ (by rw [mkH_len]; exact h.len) hi, mkH_get, hx]
  rfl

theorem mW_set {hs : List Int} {fs : List (List Int)} (h : Fit hs fs) (p : Nat → Bool) {i : Nat} {x : Int} (hx : hs[i]? = some x) : (mW hs fs p).set (tot (fs.take i)) (reh true x) = mW hs fs (upd p i) := by
  have hi : i < fs.length := by have := (List.getElem?_eq_some_iff.1 hx).1; have := h.len; omega
  rw [mW, joinW_set _ _ _ _ (by rw [mkH_len]; exact h.len) hi, mkH_set hx, mW]

theorem place_lt {fs : List (List Int)} {i : Nat} (h : i < fs.length) : tot (fs.take i) < tot fs := by
  have h1 := tot_take_succ h
  have h2 := tot_take_le fs (i + 1)
  omega

theorem fit_at {hs : List Int} {fs : List (List Int)} (h : Fit hs fs) {i : Nat} (hi : i < fs.length) : ∃ x, hs[i]? = some x ∧ unheadOk x = true ∧ wlen x = fs[i].length ∧ 0 ≤ x ∧ x < 18446744073709551616 := by
  have hi' : i < hs.length := by have := h.len; omega
  exact ⟨hs[i], List.getElem?_eq_getElem hi', h.ok i _ _ (List.getElem?_eq_getElem hi') (List.getElem?_eq_getElem hi)⟩

/-- What unmarked tells: the first object that is not marked, to which words refer. -/
def UnRes (fs : List (List Int)) (p : Nat → Bool) (l : List Int) (e : Ending) : Prop :=
  (∃ j, j < fs.length ∧ p j = false ∧ To fs l j ∧ e = .returned (.tuple #[.int .i64 (tot (fs.take j) : Nat), .bool true])) ∨
    ((∀ j, To fs l j → p j = true) ∧ e = .returned (.tuple #[.int .i64 0, .bool false]))

set_option maxRecDepth 100000 in
set_option maxHeartbeats 2000000 in
theorem unmarked_c (a : Option Addr) (c : Nat) (l : List Int) (hs : List Int) (fs : List (List Int)) (p : Nat → Bool) (N mb : Nat) (vw vr vk : Value) (rs K : List Int) (room : Nat) (lost : Bool) (w : World)
    (hM : Mk w N mb vw vr vk (mW hs fs p) rs K room lost) (hF : Fit hs fs) (h256 : tot fs ≤ 256) (hl : Wds w.heap.size w a l) (hU : U64 l) (hlen : l.length ≤ 8) (hok : ∀ x ∈ l, okW (stF 0 fs) x = true) :
    Calls Try.prog 41 #[.pointer (some ⟨mb, 0, none⟩), .slice a l.length c] w fun e w' => UnRes fs p l e ∧ Below w.heap.size w w' := by
  have HM := hide hM
  have hlm := hM.box.lt
  clear hM
  go_enter Try.func41, Try.ntmps41
  go_wp2
  go_loopw [12] (fun i wr => ∃ k : Nat, k ≤ l.length ∧ i = .int .i64 k ∧ Hid (∀ j, To fs (l.take k) j → p j = true) ∧ Below w.heap.size w wr) (fun i _ => l.length - (intOf i).toNat)
  case atStart => exact ⟨0, Nat.zero_le _, rfl, hide (fun j h => by obtain ⟨x, hx, _⟩ := h; simp at hx), Below.refl _ _⟩
  case round =>
    obtain ⟨k, hk, rfl, Hdone, hb⟩ := hrel
    have hsz := hb.size
    by_cases hlt : k < l.length
    · obtain ⟨b, off, rfl, hbB, hc⟩ := (hl.below hb).at hlt
      have hu := hU _ (List.getElem_mem hlt)
      have Hx := hide (List.getElem_mem hlt)
      have Hok := hide (ok_ref (hok _ (List.getElem_mem hlt)))
      have HT := hide (show l.take (k + 1) = l.take k ++ [l[k]] from List.take_succ_eq_append_getElem hlt)
      have hkI : (k : Int) < (l.length : Int) := by omega
      generalize l[k] = x at *
      have hq : b < wr.heap.size := by omega
      cases hr : unRef x
      · have Hr := hide hr
        have HE := hide (unhide Hok).1
        have HN : Hid (∀ j, To fs (l.take (k + 1)) j → p j = true) := hide (fun j h => by
          obtain ⟨y, hy, h1, h2⟩ := h
          rw [unhide HT] at hy
          rcases List.mem_append.1 hy with hy | hy
          · exact unhide Hdone j ⟨y, hy, h1, h2⟩
          · simp at hy; subst hy; rw [unhide Hr] at h1; cases h1)
        clear hr Hok
        go_wp2_with (go_at_call 53; go_must (refine (unpack_c x _ hu.1 hu.2).mono ?_); go_must (rintro e w3 ⟨he, hb3⟩; rw [unhide Hr, unhide HE] at he; subst he; have hs3 := hb3.size))
        go_roundw
        case rel => exact ⟨k + 1, by omega, by go_num, HN, (hb.trans (hb3.mono hsz)).alloc (by omega) _⟩
        case measure => simp [intOf]; omega
      · obtain ⟨j, hj⟩ := (unhide Hok).2 hr
        have hjl : j < fs.length := by have := (List.getElem?_eq_some_iff.1 hj).1; rw [stF_len] at this; exact this
        have hj' := stF_get fs 0 j hjl
        rw [Nat.zero_add] at hj'
        have Hnum : Hid (unNum x = ((tot (fs.take j) : Nat) : Int)) := by
          have := hj.symm.trans hj'
          injection this
        have hpl := place_lt hjl
        obtain ⟨y, hy, hy1, _, hy3, hy4⟩ := fit_at hF hjl
        have Hto : Hid (To fs l j) := hide ⟨x, unhide Hx, hr, hj⟩
        have Huniq : Hid (∀ j', (stF 0 fs)[j']? = some (unNum x) → j' = j) := hide (fun j' h => st_inj h hj)
        have HE := hide (unhide Hok).1
        obtain ⟨wb, cap, hvw, hwN, hwb, hcap⟩ := (unhide HM).words (by rw [mW_len hF]; omega)
        have hml := mW_len hF p
        rw [hml] at hvw hcap
        subst hvw
        have Hh : Hid (∀ W, Below w.heap.size w W → Calls Try.prog 54 #[.pointer (some ⟨mb, 0, none⟩), .int .i64 (tot (fs.take j) : Nat)] W fun e w' => e = .returned (.agg #[.int .i64 (uhL (reh (p j) y)), .bool (uhM (reh (p j) y)), .int .i64 (uhA (reh (p j) y))]) ∧ Below W.heap.size W w') := fun W hbW => by
          have hr2 := reh_ok (p j) y
          have hMW := (unhide HM).below hbW
          exact header_c mb wb (tot fs) cap _ _ W hMW.box.c0 (hMW.wcell hml.symm (mW_get hF p hy)).1 hpl h256 hr2.2.2.2.2.1 hr2.2.2.2.2.2
        have Hm : Hid (uhM (reh (p j) y) = p j) := (reh_ok (p j) y).2.2.1
        rw [unhide Hm] at Hh
        have Hr := hide hr
        clear hr Hok hj hj' hy hml
        generalize hpe : tot (fs.take j) = pl at *
        have Hpe := hide hpe
        clear hpe
        cases hpj : p j
        · rw [hpj] at Hh
          have Hpj := hide hpj
          clear hpj
          go_wp2_with (first
            | (go_at_call 53; go_must (refine (unpack_c x _ hu.1 hu.2).mono ?_); go_must (rintro e w3 ⟨he, hb3⟩; rw [unhide Hr, unhide HE, unhide Hnum] at he; subst he; have hs3 := hb3.size))
            | (go_at_call 54; go_must (refine (unhide Hh _ ((hb.trans (hb3.mono hsz)).alloc (by omega) _)).mono ?_); go_must (rintro e w4 ⟨he, hb4⟩; subst he; have hs4 := hb4.size; simp only [World.size_alloc] at hs4; have g0 := hb4.cell (p := ⟨w3.heap.size, 0, none⟩) (by simp); have g1 := hb4.cell (p := ⟨w3.heap.size, 1, none⟩) (by simp); simp [go_sem] at g0 g1; have hq4 : w3.heap.size < w4.heap.size := by omega)))
          go_ret2
          exact ⟨.inl ⟨j, hjl, unhide Hpj, unhide Hto, by rw [unhide Hpe]; rfl⟩, ((hb.trans (hb3.mono hsz)).alloc (by omega) _).trans (hb4.mono (by simp; omega))⟩
        · rw [hpj] at Hh
          have HN : Hid (∀ j, To fs (l.take (k + 1)) j → p j = true) := hide (fun j' h => by
            obtain ⟨z, hz, h1, h2⟩ := h
            rw [unhide HT] at hz
            rcases List.mem_append.1 hz with hz | hz
            · exact unhide Hdone j' ⟨z, hz, h1, h2⟩
            · simp at hz; subst hz; rw [unhide Huniq j' h2]; exact hpj)
          clear hpj
          go_wp2_with (first
            | (go_at_call 53; go_must (refine (unpack_c x _ hu.1 hu.2).mono ?_); go_must (rintro e w3 ⟨he, hb3⟩; rw [unhide Hr, unhide HE, unhide Hnum] at he; subst he; have hs3 := hb3.size))
            | (go_at_call 54; go_must (refine (unhide Hh _ ((hb.trans (hb3.mono hsz)).alloc (by omega) _)).mono ?_); go_must (rintro e w4 ⟨he, hb4⟩; subst he; have hs4 := hb4.size; simp only [World.size_alloc] at hs4)))
          go_roundw
          case rel => exact ⟨k + 1, by omega, by go_num, HN, ((hb.trans (hb3.mono hsz)).alloc (by omega) _).trans (hb4.mono (by simp; omega))⟩
          case measure => simp [intOf]; omega
    · obtain rfl : k = l.length := by omega
      have HN := Hdone
      rw [List.take_length] at HN
      go_wp2
      go_ret2
      exact ⟨.inr ⟨unhide HN, rfl⟩, hb⟩

end Go.Proofs.Ytjhndbfhiknngaa

/- Walks: take, climb. -/
namespace Go.Proofs.Ytjhndbfhiknngaa
set_option linter.unusedSimpArgs false
set_option linter.unusedVariables false
open Go.RowKit Go.Shelf
attribute [local go_sem] field51_0 field51_1

theorem below_drewN {B : Nat} {a w : World} (h : Below B a w) (n : Nat) : Below B a (w.drewN n) := ⟨h.os, h.tape, h.output, h.size, h.block⟩

/-- The places of objects. -/
def plc (fs : List (List Int)) (K : List Nat) : List Int := K.map fun i => ((tot (fs.take i) : Nat) : Int)
theorem plc_snoc (fs : List (List Int)) (K : List Nat) (i : Nat) : plc fs (K ++ [i]) = plc fs K ++ [((tot (fs.take i) : Nat) : Int)] := by simp [plc]
theorem plc_len (fs : List (List Int)) (K : List Nat) : (plc fs K).length = K.length := by simp [plc]

/-- A marker of an arena: which objects are marked, which are kept. -/
def MkA (W : World) (N mb : Nat) (vw vr : Value) (hs : List Int) (fs : List (List Int)) (rs : List Int) (room : Nat) (p : Nat → Bool) (K : List Nat) (lost : Bool) : Prop := ∃ vk, Mk W N mb vw vr vk (mW hs fs p) rs (plc fs K) room lost

theorem MkA.below {W W' : World} {N mb : Nat} {vw vr : Value} {hs : List Int} {fs : List (List Int)} {rs : List Int} {room : Nat} {p : Nat → Bool} {K : List Nat} {lost : Bool} (h : MkA W N mb vw vr hs fs rs room p K lost) (hb : Below W.heap.size W W') : MkA W' N mb vw vr hs fs rs room p K lost := by
  obtain ⟨vk, h⟩ := h
  exact ⟨vk, h.below hb⟩

/-- What take leaves. -/
def TkRes (N mb : Nat) (vw vr : Value) (hs : List Int) (fs : List (List Int)) (rs : List Int) (room : Nat) (p : Nat → Bool) (K : List Nat) (lost : Bool) (i : Nat) (W : World) : Prop :=
  (K.length = room ∧ MkA W N mb vw vr hs fs rs room (upd p i) K true) ∨ (K.length ≠ room ∧ MkA W N mb vw vr hs fs rs room (upd p i) (K ++ [i]) lost)

set_option maxRecDepth 100000 in
set_option maxHeartbeats 2000000 in
theorem take_c (hs : List Int) (fs : List (List Int)) (rs : List Int) (p : Nat → Bool) (K : List Nat) (N mb : Nat) (vw vr : Value) (room i : Nat) (lost : Bool) (w : World)
    (hM : MkA w N mb vw vr hs fs rs room p K lost) (hF : Fit hs fs) (h256 : tot fs ≤ 256) (hroom : room ≤ 64) (hK : K.length ≤ room) (hi : i < fs.length) :
    Calls Try.prog 42 #[.pointer (some ⟨mb, 0, none⟩), .int .i64 (tot (fs.take i) : Nat)] w fun e w' => (e = .returned (.tuple #[]) ∧ TkRes N mb vw vr hs fs rs room p K lost i w') ∧ Below N w w' ∧ KeepT w w' := by
  obtain ⟨i0, hi0, hz0, hz1, hz2⟩ := info_parts Try.info3
  obtain ⟨vk, hM⟩ := hM
  have hpl := place_lt hi
  have hml := mW_len hF p
  obtain ⟨wb, cap, hvw, hwN, hwb, hcap⟩ := hM.words (by rw [hml]; omega)
  rw [hml] at hvw hcap
  subst hvw
  obtain ⟨x, hx, hx1, hx2, hx3, hx4⟩ := fit_at hF hi
  have hr2 := reh_ok (p i) x
  have hmg := mW_get hF p hx
  have hNw : N ≤ w.heap.size := by omega
  have Hh := hide (header_c mb wb (tot fs) cap _ _ w hM.box.c0 (hM.wcell hml.symm hmg).1 hpl h256 hr2.2.2.2.2.1 hr2.2.2.2.2.2)
  have Hset : Hid (∀ W, Below w.heap.size w W → Calls Try.prog 40 #[.pointer (some ⟨mb, 0, none⟩), .int .i64 (tot (fs.take i) : Nat), .agg #[.int .i64 (uhL (reh (p i) x)), .bool (uhM (reh (p i) x)), .int .i64 (uhA (reh (p i) x))], .bool true] W fun e w' => e = .returned (.tuple #[]) ∧ Mk w' N mb (.slice (some ⟨wb, 0, none⟩) (tot fs) cap) vr vk (mW hs fs (upd p i)) rs (plc fs K) room lost ∧ Below N W w' ∧ KeepT W w') := fun W hbW => by
    have hMW := hM.below hbW
    refine (set_w mb wb (tot fs) cap _ _ _ _ _ true W hMW.box.c0 (hMW.wcell hml.symm hmg).1 (hMW.wcell hml.symm hmg).2 hpl h256).mono ?_
    rintro e w' ⟨rfl, w1, hb1, rfl⟩
    refine ⟨rfl, ?_, ?_, (KeepT.below hb1).setCell (ty_row (by have := (hMW.below hb1).wo; rw [hml] at this; exact this)) (.inl rfl) _⟩
    · have := (hMW.below hb1).setW hml.symm (tot (fs.take i)) (headW (uhL (reh (p i) x)) true (uhA (reh (p i) x)))
      rw [show headW (uhL (reh (p i) x)) true (uhA (reh (p i) x)) = reh true x from by rw [hr2.2.1, hr2.2.2.2.1]; rfl, mW_set hF p hx] at this
      rw [hr2.2.1, hr2.2.2.2.1]
      exact this
    · exact (hb1.mono (by have := hbW.size; omega)).setCell (p := ⟨wb, tot (fs.take i), none⟩) hwN _
  have Hpl : Hid (plc fs (K ++ [i]) = plc fs K ++ [((tot (fs.take i) : Nat) : Int)]) := plc_snoc fs K i
  have Hkl : Hid ((plc fs K).length = K.length) := plc_len fs K
  clear hM hmg hml hr2 hx hx1 hx2 hx3 hx4
  generalize uhL (reh (p i) x) = L at *
  generalize uhM (reh (p i) x) = M at *
  generalize uhA (reh (p i) x) = A at *
  generalize hpp : tot (fs.take i) = pl at *
  clear hpp
  generalize hkk : plc fs K = PK at *
  have Hkk := hide hkk
  clear hkk
  go_enter Try.func42, Try.ntmps42
  go_wp2_with fail
  refine (unhide Hh).mono ?_
  rintro e w2 ⟨rfl, hb2⟩
  go_wp2_with fail
  refine (unhide Hset w2 hb2).mono ?_
  rintro e w3 ⟨rfl, hM3, hb3, hk3⟩
  have hs2 := hb2.size
  have hs3 := hb3.size
  have hbN : Below N w w3 := (hb2.mono hNw).trans hb3
  have HkN := hide ((KeepT.below hb2).trans hk3)
  clear hk3
  have q2 := hM3.box.c2
  have q3 := hM3.box.c3
  have q4 := hM3.box.c4
  have z3 := hM3.box.fr 3
  have z4 := hM3.box.fr 4
  have hko := hM3.ko
  have hlm := hM3.box.lt
  obtain ⟨ka, kc, rfl⟩ := ownsRow_slice hko
  rw [unhide Hkl] at q3 hko
  have HM3 := hide hM3
  clear hM3 Hh Hset hb2 hb3
  by_cases hfull : K.length = room
  · have d0 : ((K.length : Int) == (room : Int)) = true := by simp; omega
    have Hfull := hide hfull
    clear hfull
    go_wp2
    go_quiet (fail)
    have hM4 := (unhide HM3).below (below_drewN (Below.refl _ _) nq)
    have hb4 := below_drewN hbN nq
    have Hk4 := hide ((unhide HkN).trans (KeepT.below (below_drewN (Below.refl _ w3) nq)))
    clear q2 q3 q4 z3 z4 hko hlm HM3 hbN hs3 d0 HkN
    generalize w3.drewN nq = w4 at *
    have q4 := hM4.box.c4
    have z4 := hM4.box.fr 4
    have hlm := hM4.box.lt
    have hmN := hM4.lo
    have HM4 := hide hM4
    clear hM4
    go_wp2
    refine bodyPost_ret (v := .tuple #[]) (results_none rfl _ _ _) rfl ⟨⟨rfl, .inl ⟨unhide Hfull, .slice ka PK.length kc, ?_⟩⟩, hb4.setCell (p := ⟨mb, 4, none⟩) hmN _, (unhide Hk4).setCell (unhide HM4).box.ty (.inr (.inr rfl)) _⟩
    rw [unhide Hkk]
    exact (unhide HM4).setL true
  · have d0 : ((K.length : Int) == (room : Int)) = false := by simp; omega
    have Hfull := hide hfull
    have hKr : K.length < room := by omega
    clear hfull
    go_wp2
    go_quiet (fail)
    have hM4 := (unhide HM3).below (below_drewN (Below.refl _ _) nq)
    have hb4 := below_drewN hbN nq
    have Hk4 := hide ((unhide HkN).trans (KeepT.below (below_drewN (Below.refl _ w3) nq)))
    clear q2 q3 q4 z3 z4 hko hlm HM3 hbN hs3 d0 HkN
    generalize w3.drewN nq = w4 at *
    have q3 := hM4.box.c3
    have z3 := hM4.box.fr 3
    have hlm := hM4.box.lt
    have hmN := hM4.lo
    have hko := hM4.ko
    rw [unhide Hkl] at q3 hko
    have HM4 := hide hM4
    clear hM4
    go_wp2_with (at_builtin; go_must (refine wpList_append_own_at _ rfl _ _ 40 rfl N 3 i0 _ 1 8 Try.underlying40 hi0 hz0 hz1 hz2 rfl (by decide) _ _ _ rfl (hko.alloc _) ⟨w4.heap.size, 0, none⟩ 1 1 [.int .i64 (pl : Int)] rfl rfl (cell_one_at _ _ _ _ (by simp)) (by simp [Value.oneCell']) (by simp only [maxLen]; omega) (by omega) (by simp; omega) ?_); go_must (intro v' w5 hrow hg5 _ hat; obtain ⟨g5, c5, hv5⟩ := ownsRow_succ hrow; subst hv5; have hpush := ((unhide HM4).alloc (.cells #[.int .i64 (pl : Int)] 3)).push (x := (pl : Int)) (by rw [unhide Hkl]; exact hrow) (by rw [unhide Hkl]; exact hg5) (by rw [unhide Hkl]; exact hat); have r3 := hpush.1.c3; have t3 := hpush.1.fr 3; have Hpush := hide hpush.2; have Hk5 := hide (((unhide Hk4).alloc (.cells #[.int .i64 (pl : Int)] 3)).grown (hko.alloc _) hg5 (.inr (.inl rfl))); have Hty := hide hpush.1.ty; clear hpush))
    refine bodyPost_end (v := .tuple #[]) (results_none rfl _ _ _) rfl ⟨⟨rfl, .inr ⟨unhide Hfull, .slice (some ⟨g5, 0, none⟩) (K.length + 1) c5, ?_⟩⟩, ?_, (unhide Hk5).setCell (unhide Hty) (.inr (.inr rfl)) _⟩
    · rw [unhide Hpl]
      exact unhide Hpush
    · exact ((hb4.alloc (by omega) _).grown hg5 (by simp; omega) (fun q e => (hko.lt q e).1)).setCell (p := ⟨mb, 3, none⟩) hmN _

end Go.Proofs.Ytjhndbfhiknngaa

/- Walks: climb. -/
namespace Go.Proofs.Ytjhndbfhiknngaa
set_option linter.unusedSimpArgs false
set_option linter.unusedVariables false
open Go.RowKit Go.Shelf
attribute [local go_sem] field51_0 field51_1

/-- What holds while objects are marked: E are those that are still to be gone through. -/
structure Inv (fs : List (List Int)) (rs : List Int) (E : Nat → Prop) (n0 : Nat) (p : Nat → Bool) (K : List Nat) (lost : Bool) : Prop where
  rch : ∀ j, p j = true → Rch fs rs j
  inb : ∀ j ∈ K, j < fs.length
  km : ∀ j ∈ K, p j = true
  cl : lost = false → ∀ j, p j = true → E j ∨ j ∈ K ∨ Cl fs p j
  le : unm fs.length p ≤ n0
  ls : lost = true → unm fs.length p < n0

theorem Inv.full {fs : List (List Int)} {rs : List Int} {E : Nat → Prop} {n0 : Nat} {p : Nat → Bool} {K : List Nat} {lost : Bool} (h : Inv fs rs E n0 p K lost) {j : Nat} (hj : j < fs.length) (hp : p j = false) (hr : Rch fs rs j) : Inv fs rs E n0 (upd p j) K true := by
  have hu := unm_upd hj hp
  have := h.le
  refine ⟨fun k hk => ?_, h.inb, fun k hk => upd_le (h.km k hk), fun e => (by cases e), by omega, fun _ => by omega⟩
  rcases upd_inv hk with rfl | hk
  · exact hr
  · exact h.rch k hk

theorem Inv.push {fs : List (List Int)} {rs : List Int} {E : Nat → Prop} {n0 : Nat} {p : Nat → Bool} {K : List Nat} {lost : Bool} (h : Inv fs rs E n0 p K lost) {j : Nat} (hj : j < fs.length) (hp : p j = false) (hr : Rch fs rs j) : Inv fs rs E n0 (upd p j) (K ++ [j]) lost := by
  have hu := unm_upd hj hp
  have := h.le
  refine ⟨fun k hk => ?_, fun k hk => ?_, fun k hk => ?_, fun e k hk => ?_, by omega, fun e => by have := h.ls e; omega⟩
  · rcases upd_inv hk with rfl | hk
    · exact hr
    · exact h.rch k hk
  · rcases List.mem_append.1 hk with hk | hk
    · exact h.inb k hk
    · simp at hk; subst hk; exact hj
  · rcases List.mem_append.1 hk with hk | hk
    · exact upd_le (h.km k hk)
    · simp at hk; subst hk; exact upd_self _ _
  · rcases upd_inv hk with rfl | hk
    · exact .inr (.inl (by simp))
    · rcases h.cl e k hk with h1 | h1 | h1
      · exact .inl h1
      · exact .inr (.inl (by simp [h1]))
      · exact .inr (.inr h1.upd)

theorem Inv.pop {fs : List (List Int)} {rs : List Int} {E : Nat → Prop} {n0 : Nat} {p : Nat → Bool} {K : List Nat} {i : Nat} {lost : Bool} (h : Inv fs rs E n0 p (K ++ [i]) lost) (hc : Cl fs p i) : Inv fs rs E n0 p K lost := by
  refine ⟨h.rch, fun k hk => h.inb k (by simp [hk]), fun k hk => h.km k (by simp [hk]), fun e k hk => ?_, h.le, h.ls⟩
  rcases h.cl e k hk with h1 | h1 | h1
  · exact .inl h1
  · rcases List.mem_append.1 h1 with h1 | h1
    · exact .inr (.inl h1)
    · simp at h1; subst h1; exact .inr (.inr hc)
  · exact .inr (.inr h1)

/-- How many places are kept, as memory tells. -/
def mesK (mb : Nat) (w : World) : Nat := match w.cell? ⟨mb, 3, none⟩ with
  | some (.slice _ n _) => n
  | _ => 0
/-- How many objects are not marked, as memory tells. -/
def mesU (vw : Value) (fs : List (List Int)) (w : World) : Nat := ((List.range fs.length).filter fun (i : Nat) => match w.cell? ⟨vw.ownBlock.getD 0, tot (fs.take i), none⟩ with
  | some (.int _ x) => !uhM x
  | _ => false).length

theorem mesK_eq {W : World} {N mb : Nat} {vw vr : Value} {hs : List Int} {fs : List (List Int)} {rs : List Int} {room : Nat} {p : Nat → Bool} {K : List Nat} {lost : Bool} (h : MkA W N mb vw vr hs fs rs room p K lost) : mesK mb W = K.length := by
  obtain ⟨vk, h⟩ := h
  obtain ⟨a, c, hv⟩ := ownsRow_slice h.ko
  subst hv
  unfold mesK
  rw [h.box.c3, plc_len]

theorem mesU_eq {W : World} {N mb : Nat} {vw vr : Value} {hs : List Int} {fs : List (List Int)} {rs : List Int} {room : Nat} {p : Nat → Bool} {K : List Nat} {lost : Bool} (h : MkA W N mb vw vr hs fs rs room p K lost) (hF : Fit hs fs) : mesU vw fs W = unm fs.length p := by
  obtain ⟨vk, h⟩ := h
  unfold mesU unm
  congr 1
  apply List.filter_congr
  intro i hi
  have hi' : i < fs.length := List.mem_range.1 hi
  have hml := mW_len hF p
  have hpl := place_lt hi'
  obtain ⟨wb, cap, hvw, _⟩ := h.words (by rw [hml]; omega)
  rw [hml] at hvw
  subst hvw
  obtain ⟨x, hx, _⟩ := fit_at hF hi'
  have := (h.wcell hml.symm (mW_get hF p hx)).1
  show (match W.cell? ⟨wb, tot (fs.take i), none⟩ with | some (.int _ x) => !uhM x | _ => false) = _
  rw [this]
  simp only [(reh_ok (p i) x).2.2.1]

/-- What climb leaves. -/
def ClRes (N mb : Nat) (vw vr : Value) (hs : List Int) (fs : List (List Int)) (rs : List Int) (room : Nat) (E : Nat → Prop) (n0 : Nat) (p : Nat → Bool) (W : World) : Prop :=
  ∃ p' lost', MkA W N mb vw vr hs fs rs room p' [] lost' ∧ Inv fs rs E n0 p' [] lost' ∧ ∀ j, p j = true → p' j = true

/-- The fields of an object that is kept, in memory. -/
theorem fld_wds {W : World} {N mb wb cap : Nat} {vr vk : Value} {hs : List Int} {fs : List (List Int)} {rs PK : List Int} {room : Nat} {lost : Bool} {p : Nat → Bool} (h : Mk W N mb (.slice (some ⟨wb, 0, none⟩) (tot fs) cap) vr vk (mW hs fs p) rs PK room lost) (hF : Fit hs fs) {i : Nat} {f : List Int} (hf : fs[i]? = some f) (h4 : f.length ≤ 4)
    {a : Option Addr} (ha : 0 < f.length → a = some ⟨wb, tot (fs.take i) + 1, none⟩) : Wds W.heap.size W a f := by
  refine ⟨by omega, fun hne => ?_⟩
  have hpos : 0 < f.length := List.length_pos_iff.2 hne
  have hml := mW_len hF p
  refine ⟨wb, tot (fs.take i) + 1, ha hpos, ?_, fun k v hk => ?_⟩
  · exact (h.wo.lt wb rfl).2
  · have hj := joinW_fields (mkH hs p) fs i f (by rw [mkH_len]; exact hF.len) hf
    have hk' : k < f.length := (List.getElem?_eq_some_iff.1 hk).1
    have : (mW hs fs p)[tot (fs.take i) + 1 + k]? = some v := by
      rw [← hj, List.getElem?_take, if_pos hk', List.getElem?_drop] at hk
      exact hk
    exact (h.wcell hml.symm this).1

set_option maxRecDepth 100000 in
set_option maxHeartbeats 2000000 in
theorem climb_c (hs : List Int) (fs : List (List Int)) (rs : List Int) (E : Nat → Prop) (n0 : Nat) (p : Nat → Bool) (K : List Nat) (N mb : Nat) (vw vr : Value) (room : Nat) (lost : Bool) (w : World)
    (hM : MkA w N mb vw vr hs fs rs room p K lost) (hA : Arn hs fs rs) (hroom : room ≤ 64) (hK : K.length ≤ room) (hI : Inv fs rs E n0 p K lost) :
    Calls Try.prog 43 #[.pointer (some ⟨mb, 0, none⟩)] w fun e w' => (e = .returned (.tuple #[]) ∧ ClRes N mb vw vr hs fs rs room E n0 p w') ∧ Below N w w' ∧ KeepT w w' := by
  have hF := hA.fit
  have h256 := hA.n256
  have HA := hide hA
  have HF := hide hF
  have HM0 := hide hM
  have HI0 := hide hI
  clear hA hF hM hI
  go_enter Try.func43, Try.ntmps43
  go_wp2
  go_loopw [] (fun wr => ∃ p' K' lost', Hid (MkA wr N mb vw vr hs fs rs room p' K' lost') ∧ Hid (Inv fs rs E n0 p' K' lost') ∧ Hid (∀ j, p j = true → p' j = true) ∧ K'.length ≤ room ∧ Below N w wr ∧ Hid (KeepT w wr)) (fun wr => 2 * mesU vw fs wr + mesK mb wr)
  case atStart => exact ⟨p, K, lost, HM0, HI0, hide (fun j h => h), hK, Below.refl _ _, hide (KeepT.refl _)⟩
  case round =>
    clear HM0 HI0 hK
    obtain ⟨p', K', lost', HM, HI, Hle, hKr, hb, Hkt⟩ := hrel
    have HmU := hide (mesU_eq (unhide HM) (unhide HF))
    have HmK := hide (mesK_eq (unhide HM))
    have HMA := HM
    obtain ⟨vk, HM⟩ := unhide HM
    replace HM := hide HM
    rcases List.eq_nil_or_concat K' with rfl | ⟨K0, i, hK'⟩
    · have q3 := (unhide HM).box.c3
      obtain ⟨ka, kc, hv⟩ := ownsRow_slice (unhide HM).ko
      subst hv
      rw [plc_len] at q3
      simp only [List.length_nil] at q3
      have hlm := (unhide HM).box.lt
      go_wp2
      exact bodyPost_end (v := .tuple #[]) (results_none rfl _ _ _) rfl ⟨⟨rfl, p', lost', unhide HMA, unhide HI, unhide Hle⟩, hb, unhide Hkt⟩
    · rw [List.concat_eq_append] at hK'
      subst hK'
      have hi : i < fs.length := (unhide HI).inb i (by simp)
      have hKl : K0.length + 1 ≤ room := by simpa using hKr
      have HM1 : Hid (Mk wr N mb vw vr vk (mW hs fs p') rs (plc fs K0 ++ [((tot (fs.take i) : Nat) : Int)]) room lost') := by
        have := unhide HM
        rw [plc_snoc] at this
        exact this
      obtain ⟨g, kc, hvk, hkc, hgl, hcl⟩ := (unhide HM1).last
      rw [plc_len] at hvk hkc hcl
      subst hvk
      have q3 := (unhide HM1).box.c3
      have z3 := (unhide HM1).box.fr 3
      have hlm := (unhide HM1).box.lt
      have hmN := (unhide HM1).lo
      have hml := mW_len (unhide HF) p'
      have hpl := place_lt hi
      obtain ⟨wb, cap, hvw, hwN, hwb, hcap⟩ := (unhide HM1).words (by rw [hml]; omega)
      rw [hml] at hvw hcap
      subst hvw
      obtain ⟨x, hx, hx1, hx2, hx3, hx4⟩ := fit_at (unhide HF) hi
      have hr2 := reh_ok (p' i) x
      have hmg := mW_get (unhide HF) p' hx
      have h4 : fs[i].length ≤ 4 := by rw [← hx2]; exact wlen_le hx1
      have hts := tot_take_succ hi
      have htl := tot_take_le fs (i + 1)
      have Hfld : Hid (Calls Try.prog 55 #[.pointer (some ⟨mb, 0, none⟩), .int .i64 (tot (fs.take i) : Nat)] wr fun e w' => FldRes wb (tot (fs.take i)) fs[i].length e ∧ Below wr.heap.size wr w') := by
        have := fields_c mb wb (tot fs) cap _ _ wr (unhide HM1).box.c0 ((unhide HM1).wcell hml.symm hmg).1 h256 hcap hr2.2.2.2.2.1 hr2.2.2.2.2.2 hr2.1 (by rw [reh_wlen hx1, hx2]; omega)
        rw [reh_wlen hx1, hx2] at this
        exact this
      have Hun : Hid (∀ W a c, Below wr.heap.size wr W → (0 < fs[i].length → a = some ⟨wb, tot (fs.take i) + 1, none⟩) → Calls Try.prog 41 #[.pointer (some ⟨mb, 0, none⟩), .slice a fs[i].length c] W fun e w' => UnRes fs p' fs[i] e ∧ Below W.heap.size W w') := fun W a c hbW ha => by
        have hMW := (unhide HM1).below hbW
        exact unmarked_c a c fs[i] hs fs p' N mb _ vr _ rs _ room lost' W hMW (unhide HF) h256 (fld_wds hMW (unhide HF) (List.getElem?_eq_getElem hi) h4 ha) ((unhide HA).uf _ (List.getElem_mem hi)) (by omega) ((unhide HA).okf _ (List.getElem_mem hi))
      have Htk : Hid (∀ W j, Below wr.heap.size wr W → j < fs.length → Calls Try.prog 42 #[.pointer (some ⟨mb, 0, none⟩), .int .i64 (tot (fs.take j) : Nat)] W fun e w' => (e = .returned (.tuple #[]) ∧ TkRes N mb (.slice (some ⟨wb, 0, none⟩) (tot fs) cap) vr hs fs rs room p' (K0 ++ [i]) lost' j w') ∧ Below N W w' ∧ KeepT W w') := fun W j hbW hj =>
        take_c hs fs rs p' (K0 ++ [i]) N mb _ vr room j lost' W ((unhide HMA).below hbW) (unhide HF) h256 hroom hKr hj
      have Hfi := hide (List.getElem?_eq_getElem hi)
      have hNw : N ≤ wr.heap.size := by omega
      clear hml hmg hr2 hx hx1 hx2 hx3 hx4 hts htl HM
      generalize fs[i] = f at *
      have w1 : IntKind.i64.wrap (((K0.length + 1 : Nat) : Int) - 1) = (K0.length : Int) := by rw [IntKind.wrap_i64]; omega
      have e1 : ((K0.length + 1 : Nat) : Int) - 1 = (K0.length : Int) := by omega
      go_wp2_with fail
      refine (unhide Hfld).mono ?_
      rintro e w2 ⟨⟨fa, fc, he, hfa⟩, hb2⟩
      subst he
      have Hun2 := hide (unhide Hun w2 fa fc hb2 hfa)
      clear Hfld Hun hfa
      go_wp2_with fail
      refine (unhide Hun2).mono ?_
      rintro e w3 ⟨hres, hb3⟩
      have hs2 := hb2.size
      have hs3 := hb3.size
      have hb23 : Below wr.heap.size wr w3 := hb2.trans (hb3.mono hs2)
      clear Hun2
      rcases hres with ⟨j, hj, hpj, hto, he⟩ | ⟨hall, he⟩
      · subst he
        have Htk2 := hide (unhide Htk w3 j hb23 hj)
        have Hr : Hid (Rch fs rs j) := hide (rch_step ((unhide HI).rch i ((unhide HI).km i (by simp))) (unhide Hfi) hto)
        have Hpj := hide hpj
        clear hto hpj Htk
        go_wp2_with fail
        refine (unhide Htk2).mono ?_
        rintro e w4 ⟨⟨he, hres⟩, hb4, hk4⟩
        subst he
        have Hk4 := hide ((unhide Hkt).trans ((KeepT.below hb23).trans hk4))
        clear hk4
        have Hres := hide hres
        clear hres Htk2
        have hbw4 : Below N w w4 := (hb.trans (hb23.mono hNw)).trans hb4
        go_wp2
        go_roundw
        case rel =>
          rcases unhide Hres with ⟨h1, h2⟩ | ⟨h1, h2⟩
          · exact ⟨_, _, _, hide h2, hide ((unhide HI).full hj (unhide Hpj) (unhide Hr)), hide (fun k hk => upd_le (unhide Hle k hk)), hKr, hbw4, Hk4⟩
          · exact ⟨_, _, _, hide h2, hide ((unhide HI).push hj (unhide Hpj) (unhide Hr)), hide (fun k hk => upd_le (unhide Hle k hk)), by rw [List.length_append, List.length_singleton]; omega, hbw4, Hk4⟩
        case measure =>
          have hu := unm_upd hj (unhide Hpj)
          rw [unhide HmU, unhide HmK]
          rcases unhide Hres with ⟨h1, h2⟩ | ⟨h1, h2⟩
          · rw [mesU_eq h2 (unhide HF), mesK_eq h2]; omega
          · rw [mesU_eq h2 (unhide HF), mesK_eq h2]; simp only [List.length_append, List.length_singleton]; omega
      · subst he
        have hM3 := (unhide HM1).below hb23
        have r3 := hM3.box.c3
        have t3 := hM3.box.fr 3
        have Hpop := hide (hM3.pop (plc_len fs K0))
        have Hcl : Hid (Cl fs p' i) := hide (fun f' j hf' ht => by rw [unhide Hfi] at hf'; injection hf' with hf'; subst hf'; exact hall j ht)
        have hlm3 := hM3.box.lt
        have Hk3 := hide (((unhide Hkt).trans (KeepT.below hb23)).setCell (j := 3) hM3.box.ty (.inr (.inr rfl)) (.slice (some ⟨g, 0, none⟩) K0.length kc))
        clear hM3 hall Htk
        go_wp2
        go_roundw
        case rel => exact ⟨p', K0, lost', hide ⟨_, unhide Hpop⟩, hide ((unhide HI).pop (unhide Hcl)), Hle, by omega, (hb.trans (hb23.mono hNw)).setCell (p := ⟨mb, 3, none⟩) hmN _, Hk3⟩
        case measure =>
          have h2 : MkA (w3.setCell ⟨mb, 3, none⟩ (.slice (some ⟨g, 0, none⟩) K0.length kc)) N mb (.slice (some ⟨wb, 0, none⟩) (tot fs) cap) vr hs fs rs room p' K0 lost' := ⟨_, unhide Hpop⟩
          rw [unhide HmU, unhide HmK, mesU_eq h2 (unhide HF), mesK_eq h2, List.length_append, List.length_singleton]; omega

end Go.Proofs.Ytjhndbfhiknngaa

/- Walks: each. -/
namespace Go.Proofs.Ytjhndbfhiknngaa
set_option linter.unusedSimpArgs false
set_option linter.unusedVariables false
open Go.RowKit Go.Shelf
attribute [local go_sem] field51_0 field51_1

/-- Headers in boxes are as they were. -/
def Keep51 (W W' : World) : Prop := ∀ (k : Nat) (cs : Array Value), W.heap[k]? = some (.cells cs 51) → W'.heap[k]? = some (.cells cs 51)

theorem KeepT.k51 {W W' : World} (h : KeepT W W') : Keep51 W W' := fun k cs hk => h k cs 51 hk (by decide) (by decide) (by decide)

/-- What each may rely on at an object. -/
def EachAt (fid : Nat) (c0 : Value) (a : Option Addr) (fs : List (List Int)) (I : Nat → World → Prop) (k : Nat) (l : Nat) (W : World) : Prop :=
  ∃ wb off x, a = some ⟨wb, off, none⟩ ∧ W.cell? ⟨wb, off + tot (fs.take k), none⟩ = some (.int .u64 x) ∧ 0 ≤ x ∧ x < 18446744073709551616 ∧ unheadOk x = true ∧ wlen x = l ∧
    ∀ W', Below W.heap.size W W' → Calls Try.prog fid #[.int .i64 (tot (fs.take k) : Nat), .agg #[.int .i64 l, .bool (uhM x), .int .i64 (uhA x)], c0] W' fun e W'' => e = .returned (.tuple #[]) ∧ I (k + 1) W'' ∧ Keep51 W' W'' ∧ W'.heap.size ≤ W''.heap.size

set_option maxRecDepth 100000 in
set_option maxHeartbeats 2000000 in
theorem each39_c (c0 : Value) (a : Option Addr) (cap : Nat) (fs : List (List Int)) (I : Nat → World → Prop) (w : World) (h256 : tot fs ≤ 256) (hI : I 0 w)
    (hat : ∀ (k : Nat) (hk : k < fs.length) W, I k W → EachAt 39 c0 a fs I k fs[k].length W) :
    Calls Try.prog 29 #[.slice a (tot fs : Nat) cap, .func (.func 39) #[] #[c0]] w fun e w' => e = .returned (.tuple #[]) ∧ I fs.length w' := by
  have HI := hide hI
  have Hat := hide hat
  clear hI hat
  go_enter Try.func29, Try.ntmps29
  go_wp2
  go_loopw [4] (fun i wr => ∃ k : Nat, k ≤ fs.length ∧ i = .int .i64 (tot (fs.take k) : Nat) ∧ Hid (I k wr)) (fun i _ => tot fs - (intOf i).toNat)
  case atStart => exact ⟨0, Nat.zero_le _, rfl, HI⟩
  case round =>
    clear HI
    obtain ⟨k, hk, rfl, HI⟩ := hrel
    by_cases hlt : k < fs.length
    · obtain ⟨wb, off, x, rfl, hx, hx1, hx2, hx3, hx4, hcall⟩ := unhide Hat k hlt wr (unhide HI)
      have hpl := place_lt hlt
      have hts := tot_take_succ hlt
      have htl := tot_take_le fs (k + 1)
      have HL := hide (uhL_wlen hx3)
      rw [hx4] at HL
      have HE := hide (uhE_ok hx3)
      have Hcall := hide hcall
      have HN : Hid (tot (fs.take (k + 1)) = tot (fs.take k) + 1 + fs[k].length) := by show _ = _; omega
      have hwl : wb < wr.heap.size := World.block_lt_of_cell? wr _ hx
      have hle : tot (fs.take k) + 1 + fs[k].length ≤ 256 := by omega
      clear hcall hx3 hx4 hts htl HI
      generalize fs[k].length = l at *
      generalize tot (fs.take k) = q at *
      generalize tot fs = n at *
      have hqI : (q : Int) < (n : Int) := by omega
      go_wp2_with fail
      refine (unhead_c x _ hx1 hx2).mono ?_
      rintro e w2 ⟨he, hb2⟩
      rw [unhide HL, unhide HE] at he
      subst he
      have hs2 := hb2.size
      have Hc2 := hide (unhide Hcall (w2.alloc (.cells #[.int .i64 (l : Nat), .bool (uhM x), .int .i64 (uhA x)] 51)) (hb2.alloc hs2 _))
      clear Hcall
      go_wp2_with fail
      refine (unhide Hc2).mono ?_
      rintro e w3 ⟨he, hI3, hk3, hs3⟩
      subst he
      have h51 := hk3 w2.heap.size #[.int .i64 (l : Nat), .bool (uhM x), .int .i64 (uhA x)] (heap_alloc_new _ _)
      have g0 : w3.cell? ⟨w2.heap.size, 0, none⟩ = some (.int .i64 (l : Nat)) := by rw [cell_of_row w3 w2.heap.size 0 _ 51 (0, 0) h51]; rfl
      have hl3 : w2.heap.size < w3.heap.size := by simp only [World.size_alloc] at hs3; omega
      have HI3 := hide hI3
      clear h51 hk3 hI3 Hc2
      go_wp2
      go_roundw
      case rel => exact ⟨k + 1, by omega, by rw [unhide HN]; go_num, HI3⟩
      case measure => simp [intOf]; omega
    · obtain rfl : k = fs.length := by omega
      have e0 : tot (fs.take fs.length) = tot fs := by rw [List.take_length]
      rw [e0]
      generalize tot fs = n at *
      go_wp2
      exact bodyPost_end (v := .tuple #[]) (results_none rfl _ _ _) rfl ⟨rfl, unhide HI⟩

set_option maxRecDepth 100000 in
set_option maxHeartbeats 2000000 in
theorem each56_c (c0 : Value) (a : Option Addr) (cap : Nat) (fs : List (List Int)) (I : Nat → World → Prop) (w : World) (h256 : tot fs ≤ 256) (hI : I 0 w)
    (hat : ∀ (k : Nat) (hk : k < fs.length) W, I k W → EachAt 56 c0 a fs I k fs[k].length W) :
    Calls Try.prog 29 #[.slice a (tot fs : Nat) cap, .func (.func 56) #[] #[c0]] w fun e w' => e = .returned (.tuple #[]) ∧ I fs.length w' := by
  have HI := hide hI
  have Hat := hide hat
  clear hI hat
  go_enter Try.func29, Try.ntmps29
  go_wp2
  go_loopw [4] (fun i wr => ∃ k : Nat, k ≤ fs.length ∧ i = .int .i64 (tot (fs.take k) : Nat) ∧ Hid (I k wr)) (fun i _ => tot fs - (intOf i).toNat)
  case atStart => exact ⟨0, Nat.zero_le _, rfl, HI⟩
  case round =>
    clear HI
    obtain ⟨k, hk, rfl, HI⟩ := hrel
    by_cases hlt : k < fs.length
    · obtain ⟨wb, off, x, rfl, hx, hx1, hx2, hx3, hx4, hcall⟩ := unhide Hat k hlt wr (unhide HI)
      have hpl := place_lt hlt
      have hts := tot_take_succ hlt
      have htl := tot_take_le fs (k + 1)
      have HL := hide (uhL_wlen hx3)
      rw [hx4] at HL
      have HE := hide (uhE_ok hx3)
      have Hcall := hide hcall
      have HN : Hid (tot (fs.take (k + 1)) = tot (fs.take k) + 1 + fs[k].length) := by show _ = _; omega
      have hwl : wb < wr.heap.size := World.block_lt_of_cell? wr _ hx
      have hle : tot (fs.take k) + 1 + fs[k].length ≤ 256 := by omega
      clear hcall hx3 hx4 hts htl HI
      generalize fs[k].length = l at *
      generalize tot (fs.take k) = q at *
      generalize tot fs = n at *
      have hqI : (q : Int) < (n : Int) := by omega
      go_wp2_with fail
      refine (unhead_c x _ hx1 hx2).mono ?_
      rintro e w2 ⟨he, hb2⟩
      rw [unhide HL, unhide HE] at he
      subst he
      have hs2 := hb2.size
      have Hc2 := hide (unhide Hcall (w2.alloc (.cells #[.int .i64 (l : Nat), .bool (uhM x), .int .i64 (uhA x)] 51)) (hb2.alloc hs2 _))
      clear Hcall
      go_wp2_with fail
      refine (unhide Hc2).mono ?_
      rintro e w3 ⟨he, hI3, hk3, hs3⟩
      subst he
      have h51 := hk3 w2.heap.size #[.int .i64 (l : Nat), .bool (uhM x), .int .i64 (uhA x)] (heap_alloc_new _ _)
      have g0 : w3.cell? ⟨w2.heap.size, 0, none⟩ = some (.int .i64 (l : Nat)) := by rw [cell_of_row w3 w2.heap.size 0 _ 51 (0, 0) h51]; rfl
      have hl3 : w2.heap.size < w3.heap.size := by simp only [World.size_alloc] at hs3; omega
      have HI3 := hide hI3
      clear h51 hk3 hI3 Hc2
      go_wp2
      go_roundw
      case rel => exact ⟨k + 1, by omega, by rw [unhide HN]; go_num, HI3⟩
      case measure => simp [intOf]; omega
    · obtain rfl : k = fs.length := by omega
      have e0 : tot (fs.take fs.length) = tot fs := by rw [List.take_length]
      rw [e0]
      generalize tot fs = n at *
      go_wp2
      exact bodyPost_end (v := .tuple #[]) (results_none rfl _ _ _) rfl ⟨rfl, unhide HI⟩

set_option maxRecDepth 100000 in
set_option maxHeartbeats 2000000 in
theorem each30_c (c0 : Value) (a : Option Addr) (cap : Nat) (fs : List (List Int)) (I : Nat → World → Prop) (w : World) (h256 : tot fs ≤ 256) (hI : I 0 w)
    (hat : ∀ (k : Nat) (hk : k < fs.length) W, I k W → EachAt 30 c0 a fs I k fs[k].length W) :
    Calls Try.prog 29 #[.slice a (tot fs : Nat) cap, .func (.func 30) #[] #[c0]] w fun e w' => e = .returned (.tuple #[]) ∧ I fs.length w' := by
  have HI := hide hI
  have Hat := hide hat
  clear hI hat
  go_enter Try.func29, Try.ntmps29
  go_wp2
  go_loopw [4] (fun i wr => ∃ k : Nat, k ≤ fs.length ∧ i = .int .i64 (tot (fs.take k) : Nat) ∧ Hid (I k wr)) (fun i _ => tot fs - (intOf i).toNat)
  case atStart => exact ⟨0, Nat.zero_le _, rfl, HI⟩
  case round =>
    clear HI
    obtain ⟨k, hk, rfl, HI⟩ := hrel
    by_cases hlt : k < fs.length
    · obtain ⟨wb, off, x, rfl, hx, hx1, hx2, hx3, hx4, hcall⟩ := unhide Hat k hlt wr (unhide HI)
      have hpl := place_lt hlt
      have hts := tot_take_succ hlt
      have htl := tot_take_le fs (k + 1)
      have HL := hide (uhL_wlen hx3)
      rw [hx4] at HL
      have HE := hide (uhE_ok hx3)
      have Hcall := hide hcall
      have HN : Hid (tot (fs.take (k + 1)) = tot (fs.take k) + 1 + fs[k].length) := by show _ = _; omega
      have hwl : wb < wr.heap.size := World.block_lt_of_cell? wr _ hx
      have hle : tot (fs.take k) + 1 + fs[k].length ≤ 256 := by omega
      clear hcall hx3 hx4 hts htl HI
      generalize fs[k].length = l at *
      generalize tot (fs.take k) = q at *
      generalize tot fs = n at *
      have hqI : (q : Int) < (n : Int) := by omega
      go_wp2_with fail
      refine (unhead_c x _ hx1 hx2).mono ?_
      rintro e w2 ⟨he, hb2⟩
      rw [unhide HL, unhide HE] at he
      subst he
      have hs2 := hb2.size
      have Hc2 := hide (unhide Hcall (w2.alloc (.cells #[.int .i64 (l : Nat), .bool (uhM x), .int .i64 (uhA x)] 51)) (hb2.alloc hs2 _))
      clear Hcall
      go_wp2_with fail
      refine (unhide Hc2).mono ?_
      rintro e w3 ⟨he, hI3, hk3, hs3⟩
      subst he
      have h51 := hk3 w2.heap.size #[.int .i64 (l : Nat), .bool (uhM x), .int .i64 (uhA x)] (heap_alloc_new _ _)
      have g0 : w3.cell? ⟨w2.heap.size, 0, none⟩ = some (.int .i64 (l : Nat)) := by rw [cell_of_row w3 w2.heap.size 0 _ 51 (0, 0) h51]; rfl
      have hl3 : w2.heap.size < w3.heap.size := by simp only [World.size_alloc] at hs3; omega
      have HI3 := hide hI3
      clear h51 hk3 hI3 Hc2
      go_wp2
      go_roundw
      case rel => exact ⟨k + 1, by omega, by rw [unhide HN]; go_num, HI3⟩
      case measure => simp [intOf]; omega
    · obtain rfl : k = fs.length := by omega
      have e0 : tot (fs.take fs.length) = tot fs := by rw [List.take_length]
      rw [e0]
      generalize tot fs = n at *
      go_wp2
      exact bodyPost_end (v := .tuple #[]) (results_none rfl _ _ _) rfl ⟨rfl, unhide HI⟩

end Go.Proofs.Ytjhndbfhiknngaa

/- Walks: newMarker's closure; all marks away. -/
namespace Go.Proofs.Ytjhndbfhiknngaa
set_option linter.unusedSimpArgs false
set_option linter.unusedVariables false
open Go.RowKit Go.Shelf
attribute [local go_sem] field51_0 field51_1

/-- The arena of which the first k objects are without marks. -/
def fW (hs : List Int) (fs : List (List Int)) (k : Nat) : List Int := joinW (mkF hs k) fs

theorem fW_len {hs : List Int} {fs : List (List Int)} (h : Fit hs fs) (k : Nat) : (fW hs fs k).length = tot fs := by
  rw [fW, joinW_len _ _ (by rw [mkF_len]; exact h.len)]
theorem fW_get {hs : List Int} {fs : List (List Int)} (h : Fit hs fs) {i : Nat} {x : Int} (hx : hs[i]? = some x) : (fW hs fs i)[tot (fs.take i)]? = some x := by
  have hi : i < fs.length := by have := (List.getElem?_eq_some_iff.1 hx).1; have := h.len; omega
  rw [fW, joinW_get _ _ _ (by rw [mkF_len]; exact h.len) hi, mkF_get, hx]
  simp
theorem fW_set {hs : List Int} {fs : List (List Int)} (h : Fit hs fs) {i : Nat} {x : Int} (hx : hs[i]? = some x) : (fW hs fs i).set (tot (fs.take i)) (reh false x) = fW hs fs (i + 1) := by
  have hi : i < fs.length := by have := (List.getElem?_eq_some_iff.1 hx).1; have := h.len; omega
  rw [fW, joinW_set _ _ _ _ (by rw [mkF_len]; exact h.len) hi, mkF_set hx, fW]

theorem cell_of_box {W : World} {b : Nat} {v : Value} {t : TypeId} (h : W.heap[b]? = some (.cells #[v] t)) : W.cell? ⟨b, 0, none⟩ = some v := by
  rw [cell_of_row W b 0 _ t (0, 0) h]; rfl

set_option maxRecDepth 100000 in
set_option maxHeartbeats 1000000 in
theorem nm1_c (pb mb wb n cap q : Nat) (x L A : Int) (M : Bool) (w : World) (hp : w.heap[pb]? = some (.cells #[.pointer (some ⟨mb, 0, none⟩)] 61)) (h0 : w.cell? ⟨mb, 0, none⟩ = some (.slice (some ⟨wb, 0, none⟩) n cap)) (hx : w.cell? ⟨wb, q, none⟩ = some (.int .u64 x)) (hf : w.frozen? ⟨wb, q, none⟩ = false) (hq : q < n) (hn : n ≤ 256) :
    Calls Try.prog 39 #[.int .i64 (q : Nat), .agg #[.int .i64 L, .bool M, .int .i64 A], .pointer (some ⟨pb, 0, none⟩)] w fun e w' => e = .returned (.tuple #[]) ∧ ∃ w1, Below w.heap.size w w1 ∧ w' = w1.setCell ⟨wb, q, none⟩ (.int .u64 (headW L false A)) := by
  have hlm : mb < w.heap.size := World.block_lt_of_cell? w _ h0
  have hlw : wb < w.heap.size := World.block_lt_of_cell? w _ hx
  have hlp : pb < w.heap.size := (Array.getElem?_eq_some_iff.1 hp).1
  have hcp := cell_of_box hp
  have hb0 : Below w.heap.size w (w.alloc (.cells #[.int .i64 L, .bool M, .int .i64 A] 51)) := (Below.refl _ _).alloc (Nat.le_refl _) _
  have Hc := hide (set_w mb wb n cap q x L A M false _ ((hb0.cell (p := ⟨mb, 0, none⟩) hlm).trans h0) ((hb0.cell (p := ⟨wb, q, none⟩) hlw).trans hx) ((hb0.frozen (p := ⟨wb, q, none⟩) hlw).trans hf) hq hn)
  clear hp
  go_enter Try.func39, Try.ntmps39
  go_wp2_with fail
  refine (unhide Hc).mono ?_
  rintro e w2 ⟨rfl, w1, hb1, rfl⟩
  go_wp2
  exact bodyPost_end (v := .tuple #[]) (results_none rfl _ _ _) rfl ⟨rfl, w1, hb0.trans (hb1.mono (by simp)), rfl⟩

/-- What holds while marks are taken away. -/
def NmI (w0 : World) (N mb pb : Nat) (vw vr vk : Value) (hs : List Int) (fs : List (List Int)) (rs : List Int) (room : Nat) (k : Nat) (W : World) : Prop :=
  Mk W N mb vw vr vk (fW hs fs k) rs [] room false ∧ W.heap[pb]? = some (.cells #[.pointer (some ⟨mb, 0, none⟩)] 61) ∧ Below N w0 W ∧ KeepT w0 W

theorem nmEach (N mb pb cap : Nat) (a : Option Addr) (vr vk : Value) (hs : List Int) (fs : List (List Int)) (rs : List Int) (room : Nat) (w : World) (hF : Fit hs fs) (h256 : tot fs ≤ 256)
    (hM : Mk w N mb (.slice a (tot fs) cap) vr vk (joinW hs fs) rs [] room false) (hp : w.heap[pb]? = some (.cells #[.pointer (some ⟨mb, 0, none⟩)] 61)) :
    Calls Try.prog 29 #[.slice a (tot fs : Nat) cap, .func (.func 39) #[] #[.pointer (some ⟨pb, 0, none⟩)]] w fun e w' => e = .returned (.tuple #[]) ∧ NmI w N mb pb (.slice a (tot fs) cap) vr vk hs fs rs room fs.length w' := by
  refine each39_c _ a cap fs (NmI w N mb pb (.slice a (tot fs) cap) vr vk hs fs rs room) w h256 ⟨?_, hp, Below.refl _ _, KeepT.refl _⟩ ?_
  · rw [fW, mkF_zero]; exact hM
  · intro k hk W hI
    obtain ⟨hMW, hpW, hbW, hkW⟩ := hI
    obtain ⟨x, hx, hx1, hx2, hx3, hx4⟩ := fit_at hF hk
    have hml := fW_len hF k
    have hpl := place_lt hk
    obtain ⟨wb, cap', hvw, hwN, hwb, hcap⟩ := hMW.words (by rw [hml]; omega)
    rw [hml] at hvw
    injection hvw with h1 _ h3
    subst h1 h3
    have hg := fW_get hF hx
    have hc := (hMW.wcell hml.symm hg).1
    refine ⟨wb, 0, x, rfl, by rw [Nat.zero_add]; exact hc, hx3, hx4, hx1, hx2, fun W' hb' => ?_⟩
    have hM' := hMW.below hb'
    have hp' : W'.heap[pb]? = some (.cells #[.pointer (some ⟨mb, 0, none⟩)] 61) := by rw [hb'.block pb (Array.getElem?_eq_some_iff.1 hpW).1]; exact hpW
    refine (nm1_c pb mb wb (tot fs) cap _ x _ (uhA x) (uhM x) W' hp' hM'.box.c0 (hM'.wcell hml.symm hg).1 (hM'.wcell hml.symm hg).2 hpl h256).mono ?_
    rintro e W2 ⟨rfl, w1, hb1, rfl⟩
    have hM1 := hM'.below hb1
    have hty := ty_row (show w1.ownsRow N 55 1 (.slice (some ⟨wb, 0, none⟩) (tot fs) cap) (tot fs) (wordsV (fW hs fs k)) from by have := hM1.wo; rw [hml] at this; exact this)
    have hkt : KeepT W' (w1.setCell ⟨wb, tot (fs.take k), none⟩ (.int .u64 (headW (fs[k].length : Int) false (uhA x)))) := (KeepT.below hb1).setCell hty (.inl rfl) _
    refine ⟨rfl, ⟨?_, ?_, ?_, ?_⟩, hkt.k51, by have := hb1.size; simpa [World.setCell] using this⟩
    · have := hM1.setW hml.symm (tot (fs.take k)) (headW (fs[k].length : Int) false (uhA x))
      have e : headW (fs[k].length : Int) false (uhA x) = reh false x := by
        unfold reh
        rw [uhL_wlen hx1, hx2]
      rw [e, fW_set hF hx] at this
      rw [e]
      exact this
    · exact hkt pb _ 61 hp' (by decide) (by decide) (by decide)
    · exact (hbW.trans ((hb'.trans (hb1.mono hb'.size)).mono (by omega))).setCell (p := ⟨wb, tot (fs.take k), none⟩) hwN _
    · exact (hkW.trans (KeepT.below hb')).trans hkt

end Go.Proofs.Ytjhndbfhiknngaa

/- Walks: again's closure. -/
namespace Go.Proofs.Ytjhndbfhiknngaa
set_option linter.unusedSimpArgs false
set_option linter.unusedVariables false
open Go.RowKit Go.Shelf
attribute [local go_sem] field51_0 field51_1

theorem Inv.next {fs : List (List Int)} {rs : List Int} {n0 k : Nat} {p : Nat → Bool} {lost : Bool} (h : Inv fs rs (fun j => k ≤ j) n0 p [] lost) (hp : p k = false) : Inv fs rs (fun j => k + 1 ≤ j) n0 p [] lost := by
  refine ⟨h.rch, h.inb, h.km, fun e j hj => ?_, h.le, h.ls⟩
  rcases h.cl e j hj with h1 | h1 | h1
  · refine .inl ?_
    have : j ≠ k := fun e => by subst e; rw [hp] at hj; cases hj
    show k + 1 ≤ j
    have : k ≤ j := h1
    omega
  · exact .inr (.inl h1)
  · exact .inr (.inr h1)

theorem Inv.open {fs : List (List Int)} {rs : List Int} {n0 k : Nat} {p : Nat → Bool} {lost : Bool} (h : Inv fs rs (fun j => k ≤ j) n0 p [] lost) (hp : p k = true) (hk : k < fs.length) : Inv fs rs (fun j => k + 1 ≤ j) n0 p [k] lost := by
  refine ⟨h.rch, fun j hj => ?_, fun j hj => ?_, fun e j hj => ?_, h.le, h.ls⟩
  · simp at hj; subst hj; exact hk
  · simp at hj; subst hj; exact hp
  · rcases h.cl e j hj with h1 | h1 | h1
    · have h2 : k ≤ j := h1
      by_cases e : j = k
      · exact .inr (.inl (by simp [e]))
      · exact .inl (show k + 1 ≤ j by omega)
    · simp at h1
    · exact .inr (.inr h1)

set_option maxRecDepth 100000 in
set_option maxHeartbeats 2000000 in
theorem ag1_c (hs : List Int) (fs : List (List Int)) (rs : List Int) (n0 k : Nat) (p : Nat → Bool) (N mb pb : Nat) (vw vr : Value) (room : Nat) (lost : Bool) (L A : Int) (w : World)
    (hM : MkA w N mb vw vr hs fs rs room p [] lost) (hA : Arn hs fs rs) (hr1 : 1 ≤ room) (hroom : room ≤ 64) (hk : k < fs.length) (hI : Inv fs rs (fun j => k ≤ j) n0 p [] lost) (hp : w.heap[pb]? = some (.cells #[.pointer (some ⟨mb, 0, none⟩)] 61)) :
    Calls Try.prog 56 #[.int .i64 (tot (fs.take k) : Nat), .agg #[.int .i64 L, .bool (p k), .int .i64 A], .pointer (some ⟨pb, 0, none⟩)] w fun e w' => (e = .returned (.tuple #[]) ∧ ClRes N mb vw vr hs fs rs room (fun j => k + 1 ≤ j) n0 p w') ∧ Below N w w' ∧ KeepT w w' := by
  obtain ⟨i0, hi0, hz0, hz1, hz2⟩ := info_parts Try.info3
  have hlp : pb < w.heap.size := (Array.getElem?_eq_some_iff.1 hp).1
  have hNw : N ≤ w.heap.size := by obtain ⟨vk, h⟩ := hM; have := h.box.lt; have := h.lo; omega
  cases hpk : p k
  · have hb0 : Below w.heap.size w (w.alloc (.cells #[.int .i64 L, .bool false, .int .i64 A] 51)) := (Below.refl _ _).alloc (Nat.le_refl _) _
    have HM := hide (hM.below hb0)
    have HI := hide (hI.next hpk)
    clear hM hI hpk hp
    go_enter Try.func56, Try.ntmps56
    go_wp2
    exact bodyPost_end (v := .tuple #[]) (results_none rfl _ _ _) rfl ⟨⟨rfl, p, lost, unhide HM, unhide HI, fun j h => h⟩, hb0.mono hNw, KeepT.below hb0⟩
  · obtain ⟨W1, hW1⟩ : ∃ W1, w.alloc (.cells #[.int .i64 L, .bool true, .int .i64 A] 51) = W1 := ⟨_, rfl⟩
    have hb0 : Below w.heap.size w W1 := by rw [← hW1]; exact (Below.refl _ _).alloc (Nat.le_refl _) _
    have b1 : W1.cell? ⟨w.heap.size, 1, none⟩ = some (.bool true) := by rw [← hW1]; simp [go_sem]
    have hs1 : w.heap.size < W1.heap.size := by rw [← hW1]; simp
    have HI := hide (hI.open hpk hk)
    obtain ⟨vk, hM⟩ := hM.below hb0
    have hp1 : W1.heap[pb]? = some (.cells #[.pointer (some ⟨mb, 0, none⟩)] 61) := by rw [hb0.block pb hlp]; exact hp
    have hcp := cell_of_box hp1
    have Hp1 := hide hp1
    have q3 := hM.box.c3
    have z3 := hM.box.fr 3
    have hlm := hM.box.lt
    have hmN := hM.lo
    have hko := hM.ko
    obtain ⟨ka, kc, rfl⟩ := ownsRow_slice hko
    have hkl : (plc fs ([] : List Nat)).length = 0 := rfl
    have Hkd := hide hM
    rw [hkl] at q3 hko
    have hkd := hko
    have hlp1 : pb < W1.heap.size := by omega
    have hb0N := hb0.mono hNw
    have Hclimb : Hid (∀ W lost v, Mk W N mb vw vr v (mW hs fs p) rs (plc fs [k]) room lost → Inv fs rs (fun j => k + 1 ≤ j) n0 p [k] lost → Calls Try.prog 43 #[.pointer (some ⟨mb, 0, none⟩)] W fun e w' => (e = .returned (.tuple #[]) ∧ ClRes N mb vw vr hs fs rs room (fun j => k + 1 ≤ j) n0 p w') ∧ Below N W w' ∧ KeepT W w') := fun W lost v h1 h2 =>
      climb_c hs fs rs _ n0 p [k] N mb vw vr room lost W ⟨v, h1⟩ hA hroom (by simpa using hr1) h2
    have Hpl : Hid (plc fs [k] = plc fs [] ++ [((tot (fs.take k) : Nat) : Int)]) := rfl
    have hq : tot (fs.take k) ≤ 256 := by have := place_lt hk; have := hA.n256; omega
    clear hM hI hpk hp hp1 hko hkl hA
    generalize tot (fs.take k) = q at *
    go_enter Try.func56, Try.ntmps56
    go_wp2
    clear hW1
    go_region_law (refine step_append_at rfl _ _ 40 rfl N 3 i0 _ 1 8 Try.underlying40 hi0 hz0 hz1 hz2 rfl (Nat.zero_lt_one) (.slice ka 0 kc) 0 _ rfl (hkd.alloc _).drew ⟨W1.heap.size, 0, none⟩ 1 1 [.int .i64 (q : Int)] rfl rfl (cell_one_at _ _ _ _ rfl) (by simp [Value.oneCell']) (by simp only [maxLen]; omega) (by omega) (by show N ≤ (W1.heap.push _).size; simp; omega) ?_; intro v' w5 hrow hg5 hat; have hpush := (((unhide Hkd).alloc (.cells #[.int .i64 (q : Int)] 3)).below ((Below.refl _ _).drew)).push (x := (q : Int)) hrow hg5 hat; have r3 := hpush.1.c3; have t3 := hpush.1.fr 3; have hlm5 := hpush.1.lt; have Hpush := hide hpush.2; have Hk5 := hide ((((KeepT.refl W1).alloc (.cells #[.int .i64 (q : Int)] 3)).trans (KeepT.below ((Below.refl _ _).drew))).grown (hkd.alloc _).drew hg5 (.inr (.inl rfl))); have Hty := hide hpush.1.ty; clear hpush; have c5 := cell_of_box ((unhide Hk5) pb _ 61 (unhide Hp1) (by decide) (by decide) (by decide)); have hpb5 := (Array.getElem?_eq_some_iff.1 ((unhide Hk5) pb _ 61 (unhide Hp1) (by decide) (by decide) (by decide))).1; obtain ⟨g5, cap5, hv5⟩ := ownsRow_succ hrow; subst hv5)
    all_goals
      have Hc9 := hide (unhide Hclimb _ lost _ (by rw [unhide Hpl]; exact unhide Hpush) (unhide HI))
      have Hb9 : Hid (Below N w (w5.setCell ⟨mb, 3, none⟩ (.slice (some ⟨g5, 0, none⟩) 1 cap5))) := hide (((hb0N.alloc (by omega) (.cells #[.int .i64 (q : Int)] 3)).drew.grown hg5 (by show N ≤ (W1.heap.push _).size; simp; omega) (fun z e => (hkd.lt z e).1)).setCell (p := ⟨mb, 3, none⟩) hmN _)
      have Hk9 := hide (((KeepT.below hb0).trans (unhide Hk5)).setCell (j := 3) (unhide Hty) (.inr (.inr rfl)) (.slice (some ⟨g5, 0, none⟩) 1 cap5))
      clear Hclimb Hpush
      go_wp2_with fail
      refine (unhide Hc9).mono ?_
      rintro e w6 ⟨⟨he, hres⟩, hb6, hk6⟩
      subst he
      have Hres := hide hres
      have Hk6 := hide hk6
      clear hres Hc9 hk6
      go_wp2
      exact bodyPost_end (v := .tuple #[]) (results_none rfl _ _ _) rfl ⟨⟨rfl, unhide Hres⟩, (unhide Hb9).trans hb6, (unhide Hk9).trans (unhide Hk6)⟩

end Go.Proofs.Ytjhndbfhiknngaa

/- Walks: again, markAll. -/
namespace Go.Proofs.Ytjhndbfhiknngaa
set_option linter.unusedSimpArgs false
set_option linter.unusedVariables false
open Go.RowKit Go.Shelf
attribute [local go_sem] field51_0 field51_1

theorem to_lt {fs : List (List Int)} {l : List Int} {j : Nat} (h : To fs l j) : j < fs.length := by
  obtain ⟨x, _, _, h⟩ := h
  have := (List.getElem?_eq_some_iff.1 h).1
  rw [stF_len] at this
  exact this
theorem rch_lt {fs : List (List Int)} {rs : List Int} {j : Nat} (h : Rch fs rs j) : j < fs.length :=
  h (fun j => j < fs.length) (fun _ h => to_lt h) (fun _ _ _ _ _ h => to_lt h)

/-- What holds while marked objects are gone through once more. -/
def AgI (w0 : World) (N mb pb : Nat) (vw vr : Value) (hs : List Int) (fs : List (List Int)) (rs : List Int) (room n0 : Nat) (p : Nat → Bool) (k : Nat) (W : World) : Prop :=
  ClRes N mb vw vr hs fs rs room (fun j => k ≤ j) n0 p W ∧ W.heap[pb]? = some (.cells #[.pointer (some ⟨mb, 0, none⟩)] 61) ∧ Below N w0 W ∧ KeepT w0 W

theorem agEach (N mb pb cap : Nat) (a : Option Addr) (vr : Value) (hs : List Int) (fs : List (List Int)) (rs : List Int) (room n0 : Nat) (p : Nat → Bool) (w : World) (hA : Arn hs fs rs) (hr1 : 1 ≤ room) (hroom : room ≤ 64)
    (hM : ClRes N mb (.slice a (tot fs) cap) vr hs fs rs room (fun j => 0 ≤ j) n0 p w) (hp : w.heap[pb]? = some (.cells #[.pointer (some ⟨mb, 0, none⟩)] 61)) :
    Calls Try.prog 29 #[.slice a (tot fs : Nat) cap, .func (.func 56) #[] #[.pointer (some ⟨pb, 0, none⟩)]] w fun e w' => e = .returned (.tuple #[]) ∧ AgI w N mb pb (.slice a (tot fs) cap) vr hs fs rs room n0 p fs.length w' := by
  have hF := hA.fit
  refine each56_c _ a cap fs (AgI w N mb pb (.slice a (tot fs) cap) vr hs fs rs room n0 p) w hA.n256 ⟨hM, hp, Below.refl _ _, KeepT.refl _⟩ ?_
  intro k hk W hI
  obtain ⟨⟨p', lost', hMA, hI', hle⟩, hpW, hbW, hkW⟩ := hI
  have hMA' := hMA
  obtain ⟨vk, hMW⟩ := hMA
  obtain ⟨x, hx, hx1, hx2, hx3, hx4⟩ := fit_at hF hk
  have hml := mW_len hF p'
  have hpl := place_lt hk
  obtain ⟨wb, cap', hvw, hwN, hwb, hcap⟩ := hMW.words (by rw [hml]; omega)
  rw [hml] at hvw
  injection hvw with h1 _ h3
  subst h1 h3
  have hg := mW_get hF p' hx
  have hr2 := reh_ok (p' k) x
  refine ⟨wb, 0, reh (p' k) x, rfl, by rw [Nat.zero_add]; exact (hMW.wcell hml.symm hg).1, hr2.2.2.2.2.1, hr2.2.2.2.2.2, hr2.1, by rw [reh_wlen hx1]; exact hx2, fun W' hb' => ?_⟩
  have hp' : W'.heap[pb]? = some (.cells #[.pointer (some ⟨mb, 0, none⟩)] 61) := by rw [hb'.block pb (Array.getElem?_eq_some_iff.1 hpW).1]; exact hpW
  rw [hr2.2.2.1]
  refine (ag1_c hs fs rs n0 k p' N mb pb _ vr room lost' _ _ W' (hMA'.below hb') hA hr1 hroom hk hI' hp').mono ?_
  rintro e W2 ⟨⟨rfl, p2, lost2, h2, h3, h4⟩, hb2, hk2⟩
  refine ⟨rfl, ⟨⟨p2, lost2, h2, h3, fun j hj => h4 j (hle j hj)⟩, hk2 pb _ 61 hp' (by decide) (by decide) (by decide), (hbW.trans (hb'.mono (by omega))).trans hb2, (hkW.trans (KeepT.below hb')).trans hk2⟩, hk2.k51, hb2.size⟩

theorem Inv.again {fs : List (List Int)} {rs : List Int} {E : Nat → Prop} {n0 : Nat} {p : Nat → Bool} {lost : Bool} (h : Inv fs rs E n0 p [] lost) : Inv fs rs (fun j => 0 ≤ j) (unm fs.length p) p [] false :=
  ⟨h.rch, h.inb, h.km, fun _ j _ => .inl (Nat.zero_le j), Nat.le_refl _, fun e => by cases e⟩

theorem Inv.none {fs : List (List Int)} {rs : List Int} {n0 : Nat} {p : Nat → Bool} {lost : Bool} (h : Inv fs rs (fun j => fs.length ≤ j) n0 p [] lost) : Inv fs rs (fun _ => False) n0 p [] lost := by
  refine ⟨h.rch, h.inb, h.km, fun e j hj => ?_, h.le, h.ls⟩
  rcases h.cl e j hj with h1 | h1 | h1
  · have := rch_lt (h.rch j hj)
    have h2 : fs.length ≤ j := h1
    omega
  · exact .inr (.inl h1)
  · exact .inr (.inr h1)

set_option maxRecDepth 100000 in
set_option maxHeartbeats 2000000 in
theorem again_c (hs : List Int) (fs : List (List Int)) (rs : List Int) (n0 : Nat) (p : Nat → Bool) (N mb : Nat) (vw vr : Value) (room : Nat) (w : World)
    (hM : MkA w N mb vw vr hs fs rs room p [] true) (hA : Arn hs fs rs) (hr1 : 1 ≤ room) (hroom : room ≤ 64) (hI : Inv fs rs (fun _ => False) n0 p [] true) :
    Calls Try.prog 44 #[.pointer (some ⟨mb, 0, none⟩)] w fun e w' => (e = .returned (.tuple #[]) ∧ ClRes N mb vw vr hs fs rs room (fun _ => False) (unm fs.length p) p w') ∧ Below N w w' ∧ KeepT w w' := by
  have hml := mW_len hA.fit p
  obtain ⟨W1, hW1⟩ : ∃ W1, w.alloc (.cells #[.pointer (some ⟨mb, 0, none⟩)] 61) = W1 := ⟨_, rfl⟩
  have hb0 : Below w.heap.size w W1 := by rw [← hW1]; exact (Below.refl _ _).alloc (Nat.le_refl _) _
  have hs1 : w.heap.size < W1.heap.size := by rw [← hW1]; simp
  have hp1 : W1.heap[w.heap.size]? = some (.cells #[.pointer (some ⟨mb, 0, none⟩)] 61) := by rw [← hW1]; exact heap_alloc_new _ _
  have hcp := cell_of_box hp1
  obtain ⟨vk, hM1⟩ := hM.below hb0
  have hM2 := hM1.setL false
  have q4 := hM1.box.c4
  have z4 := hM1.box.fr 4
  have q0 := hM1.box.c0
  have hmN := hM1.lo
  have hlm := hM1.box.lt
  have hNw : N ≤ w.heap.size := by obtain ⟨vk, h⟩ := hM; have := h.box.lt; have := h.lo; omega
  obtain ⟨a, cap, hvw⟩ := ownsRow_slice hM1.wo
  rw [hml] at hvw
  subst hvw
  have hp2 : (W1.setCell ⟨mb, 4, none⟩ (.bool false)).heap[w.heap.size]? = some (.cells #[.pointer (some ⟨mb, 0, none⟩)] 61) := by
    refine ((KeepT.refl W1).setCell (j := 4) hM1.box.ty (.inr (.inr rfl)) (.bool false)) _ _ 61 hp1 (by decide) (by decide) (by decide)
  have Hk2 := hide ((KeepT.below hb0).setCell (j := 4) hM1.box.ty (.inr (.inr rfl)) (.bool false))
  have Hb2 := hide ((hb0.mono hNw).setCell (p := ⟨mb, 4, none⟩) hmN (.bool false))
  have Hc := hide (agEach N mb w.heap.size cap a vr hs fs rs room (unm fs.length p) p (W1.setCell ⟨mb, 4, none⟩ (.bool false)) hA hr1 hroom ⟨p, false, ⟨_, hM2⟩, hI.again, fun j h => h⟩ hp2)
  clear hM hM1 hM2 hp1 hp2 hI hA hml
  generalize tot fs = n at *
  go_enter Try.func44, Try.ntmps44
  go_wp2_with fail
  refine (unhide Hc).mono ?_
  rintro e w3 ⟨he, ⟨p', lost', h1, h2, h3⟩, _, hb3, hk3⟩
  subst he
  have Hres : Hid (ClRes N mb (.slice a n cap) vr hs fs rs room (fun _ => False) (unm fs.length p) p w3) := hide ⟨p', lost', h1, h2.none, h3⟩
  have Hk3 := hide hk3
  clear h1 h2 h3 hk3 hW1 Hc
  go_wp2
  exact bodyPost_end (v := .tuple #[]) (results_none rfl _ _ _) rfl ⟨⟨rfl, unhide Hres⟩, (unhide Hb2).trans hb3, (unhide Hk2).trans (unhide Hk3)⟩

end Go.Proofs.Ytjhndbfhiknngaa

/- Walks: markAll. -/
namespace Go.Proofs.Ytjhndbfhiknngaa
set_option linter.unusedSimpArgs false
set_option linter.unusedVariables false
open Go.RowKit Go.Shelf
attribute [local go_sem] field51_0 field51_1

theorem unm_mono {p q : Nat → Bool} (h : ∀ j, p j = true → q j = true) (n : Nat) : unm n q ≤ unm n p := by
  unfold unm
  rw [← List.countP_eq_length_filter, ← List.countP_eq_length_filter]
  refine List.countP_mono_left fun x _ hx => ?_
  cases hp : p x
  · rfl
  · rw [h x hp] at hx; cases hx

/-- Whether something was lost, as memory tells. -/
def mesL (mb : Nat) (w : World) : Nat := match w.cell? ⟨mb, 4, none⟩ with
  | some (.bool true) => 1
  | _ => 0

theorem mesL_eq {W : World} {N mb : Nat} {vw vr : Value} {hs : List Int} {fs : List (List Int)} {rs : List Int} {room : Nat} {p : Nat → Bool} {K : List Nat} {lost : Bool} (h : MkA W N mb vw vr hs fs rs room p K lost) : mesL mb W = if lost then 1 else 0 := by
  obtain ⟨vk, h⟩ := h
  unfold mesL
  rw [h.box.c4]
  cases lost <;> rfl

/-- What markAll leaves. -/
def MaRes (N mb : Nat) (vw vr : Value) (hs : List Int) (fs : List (List Int)) (rs : List Int) (room : Nat) (W : World) : Prop :=
  ∃ p, MkA W N mb vw vr hs fs rs room p [] false ∧ ∀ j, p j = true ↔ Rch fs rs j

set_option maxRecDepth 100000 in
set_option maxHeartbeats 2000000 in
theorem markAll_c (hs : List Int) (fs : List (List Int)) (rs : List Int) (N mb : Nat) (vw vr : Value) (room : Nat) (w : World)
    (hM : MkA w N mb vw vr hs fs rs room (fun _ => false) [] false) (hA : Arn hs fs rs) (hr1 : 1 ≤ room) (hroom : room ≤ 64) :
    Calls Try.prog 28 #[.pointer (some ⟨mb, 0, none⟩)] w fun e w' => (e = .returned (.tuple #[]) ∧ MaRes N mb vw vr hs fs rs room w') ∧ Below N w w' ∧ KeepT w w' := by
  have HM0 := hide hM
  have HA := hide hA
  have HF := hide hA.fit
  have h256 := hA.n256
  have HI0 : Hid (Inv fs rs (fun _ => False) (fs.length + 1) (fun _ => false) [] false) := hide ⟨fun j h => (by cases h), by simp, by simp, fun _ j h => (by cases h), by unfold unm; have := List.length_filter_le (fun i => !(fun _ => false) i) (List.range fs.length); rw [List.length_range] at this; omega, fun e => by cases e⟩
  clear hM hA
  go_enter Try.func28, Try.ntmps28
  go_wp2
  go_loopw [] (fun wr => ∃ p lost, Hid (MkA wr N mb vw vr hs fs rs room p [] lost) ∧ Hid (Inv fs rs (fun _ => False) (fs.length + 1) p [] lost) ∧ Below N w wr ∧ Hid (KeepT w wr)) (fun wr => mesU vw fs wr)
  case atStart => exact ⟨_, _, HM0, HI0, Below.refl _ _, hide (KeepT.refl _)⟩
  case round =>
    clear HM0 HI0
    obtain ⟨p, lost, HMA, HI, hb, Hkt⟩ := hrel
    have HmU := hide (mesU_eq (unhide HMA) (unhide HF))
    obtain ⟨vk, hM⟩ := unhide HMA
    have q1 := hM.box.c1
    have hlm := hM.box.lt
    have hmN := hM.lo
    have hNw : N ≤ wr.heap.size := by omega
    obtain ⟨ra, rc, hvr, hrd⟩ := hM.rds (unhide HA).n8
    subst hvr
    have Hun := hide (unmarked_c ra rc rs hs fs p N mb vw _ vk rs _ room lost wr hM (unhide HF) h256 hrd (unhide HA).ur (unhide HA).n8 (unhide HA).okr)
    clear hM hrd
    go_wp2_with fail
    refine (unhide Hun).mono ?_
    rintro e w3 ⟨hres, hb3⟩
    have hs3 := hb3.size
    clear Hun
    rcases hres with ⟨j, hj, hpj, hto, he⟩ | ⟨hall, he⟩
    · subst he
      have Htk := hide (take_c hs fs rs p [] N mb vw _ room j lost w3 ((unhide HMA).below hb3) (unhide HF) h256 hroom (by simp) hj)
      have HI2 := hide ((unhide HI).push hj hpj (rch_root hto))
      have Hu := hide (unm_upd hj hpj)
      clear hto hpj HI HMA
      go_wp2_with fail
      refine (unhide Htk).mono ?_
      rintro e w4 ⟨⟨he, hres⟩, hb4, hk4⟩
      subst he
      have h4 : MkA w4 N mb vw (.slice ra rs.length rc) hs fs rs room (upd p j) ([] ++ [j]) lost := by
        rcases hres with ⟨h1, _⟩ | ⟨_, h2⟩
        · simp at h1; omega
        · exact h2
      have Hcl := hide (climb_c hs fs rs _ _ (upd p j) ([] ++ [j]) N mb vw _ room lost w4 h4 (unhide HA) hroom (by simpa using hr1) (unhide HI2))
      have Hk4 := hide ((unhide Hkt).trans ((KeepT.below hb3).trans hk4))
      have hbw4 : Below N w w4 := (hb.trans (hb3.mono hNw)).trans hb4
      clear hres h4 Htk HI2 hk4
      go_wp2_with fail
      refine (unhide Hcl).mono ?_
      rintro e w5 ⟨⟨he, p', lost', h1, h2, h3⟩, hb5, hk5⟩
      subst he
      have H1 := hide h1
      have H2 := hide h2
      have H3 := hide h3
      have Hk5 := hide ((unhide Hk4).trans hk5)
      clear h1 h2 h3 hk5 Hcl
      go_wp2
      go_roundw
      case rel => exact ⟨p', lost', H1, H2, hbw4.trans hb5, Hk5⟩
      case measure =>
        have := unm_mono (unhide H3) fs.length
        have := unhide Hu
        rw [unhide HmU, mesU_eq (unhide H1) (unhide HF)]
        omega
    · subst he
      have Hall := hide hall
      have HM3 := hide ((unhide HMA).below hb3)
      have Hk3 := hide ((unhide Hkt).trans (KeepT.below hb3))
      have hbw3 : Below N w w3 := hb.trans (hb3.mono hNw)
      clear hall HMA HmU Hkt q1 hlm hNw hb hb3 hs3
      go_wp2
      go_loopw [] (fun wr => ∃ p lost n0, Hid (MkA wr N mb vw (.slice ra rs.length rc) hs fs rs room p [] lost) ∧ Hid (Inv fs rs (fun _ => False) n0 p [] lost) ∧ Hid (∀ j, To fs rs j → p j = true) ∧ Below N w wr ∧ Hid (KeepT w wr)) (fun wr => 2 * mesU vw fs wr + mesL mb wr)
      case atStart => exact ⟨p, lost, _, HM3, HI, Hall, hbw3, Hk3⟩
      case round =>
        clear HM3 HI Hall hbw3 Hk3
        obtain ⟨p, lost, n0, HMA, HI, Hall, hb, Hkt⟩ := hrel
        have HmU := hide (mesU_eq (unhide HMA) (unhide HF))
        have HmL := hide (mesL_eq (unhide HMA))
        have q4 : wr.cell? ⟨mb, 4, none⟩ = some (.bool lost) := by obtain ⟨vk, hM⟩ := unhide HMA; exact hM.box.c4
        have hlm : mb < wr.heap.size := by obtain ⟨vk, hM⟩ := unhide HMA; exact hM.box.lt
        cases lost
        · have HR : Hid (MaRes N mb vw (.slice ra rs.length rc) hs fs rs room wr) := hide ⟨p, unhide HMA, marked_all (unhide HI).rch (unhide Hall) (fun i hi => by
            rcases (unhide HI).cl rfl i hi with h | h | h
            · cases h
            · cases h
            · exact h)⟩
          go_wp2
          exact bodyPost_end (v := .tuple #[]) (results_none rfl _ _ _) rfl ⟨⟨rfl, unhide HR⟩, hb, unhide Hkt⟩
        · have Hag := hide (again_c hs fs rs n0 p N mb vw _ room wr (unhide HMA) (unhide HA) hr1 hroom (unhide HI))
          go_wp2_with fail
          refine (unhide Hag).mono ?_
          rintro e w5 ⟨⟨he, p', lost', h1, h2, h3⟩, hb5, hk5⟩
          subst he
          have H1 := hide h1
          have H2 := hide h2
          have H3 := hide h3
          have Hk5 := hide ((unhide Hkt).trans hk5)
          clear h1 h2 h3 hk5 Hag
          go_wp2
          go_roundw
          case rel => exact ⟨p', lost', _, H1, H2, hide (fun j hj => unhide H3 j (unhide Hall j hj)), hb.trans hb5, Hk5⟩
          case measure =>
            have hm := unm_mono (unhide H3) fs.length
            rw [unhide HmU, unhide HmL, mesU_eq (unhide H1) (unhide HF), mesL_eq (unhide H1)]
            cases lost'
            · simp; omega
            · have := (unhide H2).ls rfl
              simp; omega

end Go.Proofs.Ytjhndbfhiknngaa

/- Walks: newMarker. -/
namespace Go.Proofs.Ytjhndbfhiknngaa
set_option linter.unusedSimpArgs false
set_option linter.unusedVariables false
open Go.RowKit Go.Shelf
attribute [local go_sem] field51_0 field51_1

theorem Try.info55m : (Try.prog.info? 55).map (fun i => (i.zero, i.size, i.bytes)) = some (some (.int .u64 0), 1, 8) := by kernel_rfl

theorem run_append_words (w : World) (base : Nat) (ty : TypeId) (ar : Option Addr) (l : List Int) (c : Nat) (hW : Wds w.heap.size w ar l) (hl : l.length ≤ 256) (hbase : base ≤ w.heap.size) :
    ∃ v' w', (Builtin.append_ #[22, 22] ty #[.slice none 0 0, .slice ar l.length c]).run Try.prog w = .ok v' w' ∧ w'.ownsRow base 55 1 v' l.length (wordsV l) ∧ w.grownBy w' none ∧ (v'.ownBlock = none ∨ v'.ownBlock = some w.heap.size) := by
  obtain ⟨i0, hi0, hz0, hz1, hz2⟩ := info_parts Try.info55m
  cases ar with
  | none =>
    have h0 : l = [] := by
      cases l with
      | nil => rfl
      | cons x l => obtain ⟨b, off, e, _⟩ := hW.2 (by simp); cases e
    subst h0
    refine ⟨.slice none 0 0, w, ?_, World.ownsRow_nil _ _ _ _, ⟨rfl, rfl, rfl, Nat.le_refl _, fun _ _ _ => rfl⟩, .inl rfl⟩
    simp [Builtin.append_, run_underlying Try.underlying22, sizeOf, typeInfo, hi0, Builtin.lenOf, Builtin.firstCells]
  | some ad =>
    have hn : ∀ j u, (wordsV l)[j]? = some u → w.cell? (ad.add j) = some u := by
      intro j u hj
      obtain ⟨b, off, e, _, hc⟩ := hW.2 (by rintro rfl; simp [wordsV] at hj)
      have e' := Option.some.inj e
      subst e'
      rw [Go.WideShapes.add_plain]
      simp only [wordsV, List.getElem?_map, Option.map_eq_some_iff] at hj
      obtain ⟨x, hx, rfl⟩ := hj
      exact hc j x hx
    obtain ⟨v', w', h1, h2, h3, _, h5⟩ := run_append_own_at (P := Try.prog) w base 22 ty 55 i0 (.int .u64 0) 1 8 Try.underlying22 hi0 hz0 hz1 hz2 rfl (by decide) (.slice none 0 0) 0 [] (World.ownsRow_nil _ _ _ _) ad l.length c (wordsV l) (by simp [wordsV]) hn (by intro u hu; simp only [wordsV, List.mem_map] at hu; obtain ⟨x, _, rfl⟩ := hu; rfl) (by simp only [maxLen]; omega) (by omega) hbase
    rw [Nat.zero_add, List.nil_append] at h2
    exact ⟨v', w', h1, h2, h3, h5⟩

theorem step_append_words {ops : Array Oper} {o : Oper} {a : Act} {w : World} {K : Act → World → Prop} {Q : Exit → Act → World → Prop} {E : Prop} (hgd : o.guard = none) (s x : Operand)
    (ho : o.op = .call { callee := .builtin .append, args := #[s, x], argTypes := #[22, 22] }) (base : Nat) (ar : Option Addr) (l : List Int) (c : Nat) (hs : a.eval s = .slice none 0 0) (hx : a.eval x = .slice ar l.length c) (hW : Wds w.heap.size w ar l) (hl : l.length ≤ 256) (hbase : base ≤ w.heap.size)
    (h : ∀ v' w', w'.ownsRow base 55 1 v' l.length (wordsV l) → w.grownBy w' none → (v'.ownBlock = none ∨ v'.ownBlock = some w.heap.size) → K (a.put o.dst v') w') :
    if Region.wanted o (yielded ops a.tmps) = true then Oper.wp Try.prog o a w K Q else E := by
  have hw : Region.wanted o (yielded ops a.tmps) = true := by simp [Region.wanted, hgd]
  rw [if_pos hw]
  obtain ⟨v', w', hr, h2, h3, h5⟩ := run_append_words w base o.type ar l c hW hl hbase
  unfold Oper.wp execOp
  simp only [ho, resolve, invoke, builtin, Sem.run_bind, Sem.run_pure, Result.andThen_ok, List.map_toArray, List.map_cons, List.map_nil, hs, hx, hr]
  exact h v' w' h2 h3 h5

theorem grown_own {W w1 : World} {base : Nat} {e : TypeId} {size : Nat} {v : Value} {n : Nat} {xs : List Value} (h : W.ownsRow base e size v n xs) (hg : W.grownBy w1 none) : w1.ownsRow base e size v n xs := h.kept hg (by cases hv : v.ownBlock <;> simp)

/-- Behind the first append and its store. -/
theorem Mk.first {W w1 : World} {N mb : Nat} {vr vk v' : Value} {ws rs K : List Int} {room : Nat} {lost : Bool} (h : Mk W N mb (.slice none 0 0) vr vk [] rs K room lost) (hrow : w1.ownsRow N 55 1 v' ws.length (wordsV ws)) (hg : W.grownBy w1 none)
    (hat : v'.ownBlock = none ∨ v'.ownBlock = some W.heap.size) : MBox w1 mb (.slice none 0 0) vr room vk lost ∧ Mk (w1.setCell ⟨mb, 0, none⟩ v') N mb v' vr vk ws rs K room lost := by
  have hbox : MBox w1 mb (.slice none 0 0) vr room vk lost := h.box.kept (hg.block _ h.box.lt (by simp))
  have new : ∀ {u : Value}, (∀ k, u.ownBlock = some k → k < W.heap.size) → ∀ k, v'.ownBlock = some k → u.ownBlock ≠ some k := by
    intro u h1 k hk e
    rcases hat with h | h
    · rw [h] at hk; cases hk
    · rw [h] at hk; injection hk with hk; have := h1 k e; omega
  have hg2 := grown_set w1 mb 0 v'
  have ne : v'.ownBlock ≠ some mb := fun e => by
    rcases hat with h1 | h1
    · rw [h1] at e; cases e
    · rw [h1] at e; injection e with e; have := h.box.lt; omega
  exact ⟨hbox, hbox.set0 v', h.lo, hrow.kept hg2 (or_ne ne), (grown_own h.ro hg).kept hg2 (or_ne h.ar), (grown_own h.ko hg).kept hg2 (or_ne h.ak), ne, h.ar, h.ak, new (fun k hk => (h.ro.lt k hk).2), new (fun k hk => (h.ko.lt k hk).2), h.rk⟩

/-- Behind the second append and its store. -/
theorem Mk.second {W w1 : World} {N mb : Nat} {vw vk v' : Value} {ws rs K : List Int} {room : Nat} {lost : Bool} (h : Mk W N mb vw (.slice none 0 0) vk ws [] K room lost) (hrow : w1.ownsRow N 55 1 v' rs.length (wordsV rs)) (hg : W.grownBy w1 none)
    (hat : v'.ownBlock = none ∨ v'.ownBlock = some W.heap.size) : MBox w1 mb vw (.slice none 0 0) room vk lost ∧ Mk (w1.setCell ⟨mb, 1, none⟩ v') N mb vw v' vk ws rs K room lost := by
  have hbox : MBox w1 mb vw (.slice none 0 0) room vk lost := h.box.kept (hg.block _ h.box.lt (by simp))
  have new : ∀ {u : Value}, (∀ k, u.ownBlock = some k → k < W.heap.size) → ∀ k, v'.ownBlock = some k → u.ownBlock ≠ some k := by
    intro u h1 k hk e
    rcases hat with h | h
    · rw [h] at hk; cases hk
    · rw [h] at hk; injection hk with hk; have := h1 k e; omega
  have hg2 := grown_set w1 mb 1 v'
  have ne : v'.ownBlock ≠ some mb := fun e => by
    rcases hat with h1 | h1
    · rw [h1] at e; cases e
    · rw [h1] at e; injection e with e; have := h.box.lt; omega
  exact ⟨hbox, hbox.set1 v', h.lo, (grown_own h.wo hg).kept hg2 (or_ne h.aw), hrow.kept hg2 (or_ne ne), (grown_own h.ko hg).kept hg2 (or_ne h.ak), h.aw, ne, h.ak, fun k hk e => new (fun k hk => (h.wo.lt k hk).2) k e hk, h.wk, new (fun k hk => (h.ko.lt k hk).2)⟩

theorem keepT_grown {a W W' : World} (h : KeepT a W) (hg : W.grownBy W' none) : KeepT a W' := h.trans fun k cs t hk _ _ _ => by rw [hg.block k (Array.getElem?_eq_some_iff.1 hk).1 (by simp)]; exact hk

/-- A new marker. -/
theorem mk_start {w1 : World} {N kb room : Nat} (h : w1.ownsRow N 3 1 (.slice (some ⟨kb, 0, none⟩) 0 room) 0 []) (hN : N ≤ w1.heap.size) :
    Mk ((w1.alloc (.cells #[.slice none 0 0, .slice none 0 0, .int .i64 (room : Nat), .slice (some ⟨kb, 0, none⟩) 0 room, .bool false] 64)).alloc (.cells #[.pointer (some ⟨w1.heap.size, 0, none⟩)] 61)) N w1.heap.size (.slice none 0 0) (.slice none 0 0) (.slice (some ⟨kb, 0, none⟩) 0 room) [] [] [] room false := by
  have hk := (h.lt kb rfl).2
  refine ⟨⟨by simp [go_sem], by simp [go_sem], by simp [go_sem], by simp [go_sem], by simp [go_sem], fun j => ?_, ?_⟩, hN, World.ownsRow_nil _ _ _ _, World.ownsRow_nil _ _ _ _, (h.alloc _).alloc _, by simp [Value.ownBlock], by simp [Value.ownBlock], by simp [Value.ownBlock]; omega, by simp [Value.ownBlock], by simp [Value.ownBlock], by simp [Value.ownBlock]⟩
  · simp [go_sem]
  · refine ⟨#[.slice none 0 0, .slice none 0 0, .int .i64 (room : Nat), .slice (some ⟨kb, 0, none⟩) 0 room, .bool false], ?_⟩
    rw [Below.heap_alloc _ _ _ (by simp)]
    exact heap_alloc_new _ _

end Go.Proofs.Ytjhndbfhiknngaa

/- Walks: newMarker. -/
namespace Go.Proofs.Ytjhndbfhiknngaa
set_option linter.unusedSimpArgs false
set_option linter.unusedVariables false
open Go.RowKit Go.Shelf
attribute [local go_sem] field51_0 field51_1

def NmRes (N : Nat) (hs : List Int) (fs : List (List Int)) (rs : List Int) (room : Nat) (e : Ending) (W : World) : Prop :=
  ∃ mb vw vr, e = .returned (.pointer (some ⟨mb, 0, none⟩)) ∧ MkA W N mb vw vr hs fs rs room (fun _ => false) [] false

set_option maxRecDepth 100000 in
set_option maxHeartbeats 2000000 in
theorem newMarker_c (aw ar : Option Addr) (cw cr : Nat) (hs : List Int) (fs : List (List Int)) (rs : List Int) (room : Nat) (w : World) (hA : Arn hs fs rs) (hr1 : 1 ≤ room) (hroom : room ≤ 64)
    (hW : Wds w.heap.size w aw (joinW hs fs)) (hR : Wds w.heap.size w ar rs) :
    Calls Try.prog 27 #[.agg #[.slice aw (tot fs : Nat) cw, .slice ar rs.length cr], .int .i64 (room : Nat)] w fun e w' => NmRes w.heap.size hs fs rs room e w' ∧ Below w.heap.size w w' := by
  obtain ⟨i0, hi0, hz0, hz1, hz2⟩ := info_parts Try.info3
  have hF := hA.fit
  have h256 := hA.n256
  have h8 := hA.n8
  have hjl := joinW_len hs fs hF.len
  have HF := hide hF
  have Hjl := hide hjl
  obtain ⟨W0, hW0⟩ : ∃ W0, w.alloc (.cells #[.slice aw (tot fs : Nat) cw, .slice ar rs.length cr] 24) = W0 := ⟨_, rfl⟩
  have hb0 : Below w.heap.size w W0 := by rw [← hW0]; exact (Below.refl _ _).alloc (Nat.le_refl _) _
  have hs0 : w.heap.size < W0.heap.size := by rw [← hW0]; simp
  have hp0 : W0.heap[w.heap.size]? = some (.cells #[.slice aw (tot fs : Nat) cw, .slice ar rs.length cr] 24) := by rw [← hW0]; exact heap_alloc_new _ _
  have Hp0 := hide hp0
  have HW := hide (hW.below hb0)
  have HR := hide (hR.below hb0)
  clear hW hR hA hjl hF hp0
  go_enter Try.func27, Try.ntmps27
  go_upto_region 2 with (at_make; go_must (refine wpList_make_own _ rfl _ _ 40 rfl w.heap.size 3 i0 _ 1 Try.underlying40 hi0 hz0 hz1 .i64 .i64 _ room rfl rfl rfl (by rw [hz2]; omega) (by simp only [maxLen]; omega) (by omega) ?_); go_must (intro w1 hown hg1))
  have hs1 := hg1.size
  have hM2 := mk_start hown (N := w.heap.size) (by omega)
  obtain ⟨W2, hW2⟩ : ∃ W2, ((w1.alloc (.cells #[.slice none 0 0, .slice none 0 0, .int .i64 (room : Nat), .slice (some ⟨W0.heap.size, 0, none⟩) 0 room, .bool false] 64)).alloc (.cells #[.pointer (some ⟨w1.heap.size, 0, none⟩)] 61)) = W2 := ⟨_, rfl⟩
  rw [hW2] at hM2
  have hp2 : W2.heap[w1.heap.size + 1]? = some (.cells #[.pointer (some ⟨w1.heap.size, 0, none⟩)] 61) := by
    have := heap_alloc_new (w1.alloc (.cells #[.slice none 0 0, .slice none 0 0, .int .i64 (room : Nat), .slice (some ⟨W0.heap.size, 0, none⟩) 0 room, .bool false] 64)) (.cells #[.pointer (some ⟨w1.heap.size, 0, none⟩)] 61)
    rw [hW2] at this
    simpa using this
  have hb2 : Below W0.heap.size W0 W2 := by rw [← hW2]; exact ((((Below.refl _ W0).grown hg1 (Nat.le_refl _) (fun k e => by cases e)).alloc hs1 _).alloc (by simp; omega) _)
  have hs2 := hb2.size
  rw [hW2]
  have hmW : W0.heap.size ≤ w1.heap.size := hs1
  have hlp2 := (Array.getElem?_eq_some_iff.1 hp2).1
  clear hown hg1 hW2 hW0 hs1
  generalize w1.heap.size = mb at *
  have hcp := cell_of_box hp2
  have q0 := hM2.box.c0
  have z0 := hM2.box.fr 0
  have hlm := hM2.box.lt
  have c24 : ∀ (wx : World), Below W0.heap.size W0 wx → wx.cell? ⟨w.heap.size, 0, none⟩ = some (.slice aw (tot fs : Nat) cw) ∧ wx.cell? ⟨w.heap.size, 1, none⟩ = some (.slice ar rs.length cr) := fun wx hb => by
    have h := (hb.block w.heap.size hs0).trans (unhide Hp0)
    exact ⟨by rw [cell_of_row wx w.heap.size 0 _ 24 (0, 0) h]; rfl, by rw [cell_of_row wx w.heap.size 1 _ 24 (0, 0) h]; rfl⟩
  have a0 := (c24 W2 hb2).1
  have hla : w.heap.size < W2.heap.size := by omega
  have HM2 := hide hM2
  have Hp2 := hide hp2
  have HWd : Hid (∀ wx, Below W0.heap.size W0 wx → Wds wx.heap.size wx aw (joinW hs fs) ∧ Wds wx.heap.size wx ar rs) := fun wx hb => ⟨((unhide HW).below (hb.mono (by omega))).mono (by have := hb.size; omega), ((unhide HR).below (hb.mono (by omega))).mono (by have := hb.size; omega)⟩
  have Hc24 := hide c24
  clear hM2 hp2 c24
  go_cut [] from 11 to 22 (fun wx => ∃ vw, Hid (Mk wx w.heap.size mb vw (.slice none 0 0) (.slice (some ⟨W0.heap.size, 0, none⟩) 0 room) (joinW hs fs) [] [] room false) ∧ Hid (KeepT W2 wx) ∧ Below W0.heap.size W0 wx)
  case first =>
    go_region_law (refine step_append_words rfl _ _ rfl w.heap.size aw (joinW hs fs) cw rfl (by rw [unhide Hjl]; rfl) (unhide HWd _ hb2.drew).1 (by rw [unhide Hjl]; exact h256) (by show w.heap.size ≤ W2.heap.size; omega) ?_; intro v' w5 hrow hg5 hat; have hfst := ((unhide HM2).below ((Below.refl _ _).drew)).first hrow hg5 hat; have r0 := hfst.1.c0; have t0 := hfst.1.fr 0; have hlm5 := hfst.1.lt; have Hfst := hide hfst.2; have Hty := hide hfst.1.ty; have Hk5 := hide (keepT_grown (KeepT.below ((Below.refl _ W2).drew)) hg5); have hb5 := hb2.drew.grown hg5 hs2 (fun k e => by cases e); have c5 := cell_of_box ((unhide Hk5) (mb + 1) _ 61 (unhide Hp2) (by decide) (by decide) (by decide)); clear hfst; obtain ⟨va, vc, hv5⟩ := ownsRow_slice hrow; subst hv5)
    all_goals
      go_wp2_with fail
      go_meet
      case rel => exact ⟨_, Hfst, hide ((unhide Hk5).setCell (unhide Hty) (.inr (.inr rfl)) _), hb5.setCell (p := ⟨mb, 0, none⟩) (by show W0.heap.size ≤ mb; omega) _⟩
  case rest =>
  obtain ⟨vw, HM3, Hk3, hb3⟩ := hcut
  clear q0 z0 hcp hlm hla a0 HM2 hlp2
  have hs3 := hb3.size
  have Hp3 := hide ((unhide Hk3) (mb + 1) _ 61 (unhide Hp2) (by decide) (by decide) (by decide))
  have hcp := cell_of_box (unhide Hp3)
  have q1 := (unhide HM3).box.c1
  have z1 := (unhide HM3).box.fr 1
  have hlm := (unhide HM3).box.lt
  have a1 := (unhide Hc24 wc hb3).2
  have hla : w.heap.size < wc.heap.size := by omega
  have hlp : mb + 1 < wc.heap.size := (Array.getElem?_eq_some_iff.1 (unhide Hp3)).1
  clear hb2 hs2 Hp2 Hk3
  go_upto_region 3 with fail
  go_cut [] from 23 to 34 (fun wx => ∃ vr, Hid (Mk wx w.heap.size mb vw vr (.slice (some ⟨W0.heap.size, 0, none⟩) 0 room) (joinW hs fs) rs [] room false) ∧ Hid (wx.heap[mb + 1]? = some (.cells #[.pointer (some ⟨mb, 0, none⟩)] 61)) ∧ Below W0.heap.size W0 wx)
  case first =>
    go_region_law (refine step_append_words rfl _ _ rfl w.heap.size ar rs cr rfl rfl (unhide HWd _ hb3.drew).2 (by omega) (by show w.heap.size ≤ wc.heap.size; omega) ?_; intro v' w5 hrow hg5 hat; have hsnd := ((unhide HM3).below ((Below.refl _ _).drew)).second hrow hg5 hat; have r0 := hsnd.1.c1; have t0 := hsnd.1.fr 1; have hlm5 := hsnd.1.lt; have Hsnd := hide hsnd.2; have Hty := hide hsnd.1.ty; have Hk5 := hide (keepT_grown (KeepT.below ((Below.refl _ wc).drew)) hg5); have hb5 := hb3.drew.grown hg5 hs3 (fun k e => by cases e); have c5 := cell_of_box ((unhide Hk5) (mb + 1) _ 61 (unhide Hp3) (by decide) (by decide) (by decide)); clear hsnd; obtain ⟨va, vc, hv5⟩ := ownsRow_slice hrow; subst hv5)
    all_goals
      go_wp2_with fail
      go_meet
      case rel => exact ⟨_, Hsnd, hide (((unhide Hk5).setCell (unhide Hty) (.inr (.inr rfl)) _) (mb + 1) _ 61 (unhide Hp3) (by decide) (by decide) (by decide)), hb5.setCell (p := ⟨mb, 1, none⟩) (by show W0.heap.size ≤ mb; omega) _⟩
  case rest =>
  obtain ⟨vr, HM4, Hp4, hb4⟩ := hcut
  clear q1 z1 hcp hlm hla a1 HM3 Hp3 hs3 hb3 hlp Hc24 HWd
  have hcp := cell_of_box (unhide Hp4)
  have hlp : mb + 1 < wc.heap.size := (Array.getElem?_eq_some_iff.1 (unhide Hp4)).1
  have hlm := (unhide HM4).box.lt
  obtain ⟨a, cap, hvw⟩ := ownsRow_slice (unhide HM4).wo
  rw [unhide Hjl] at hvw
  subst hvw
  have q0 := (unhide HM4).box.c0
  have Hc := hide (nmEach w.heap.size mb (mb + 1) cap a vr _ hs fs rs room wc (unhide HF) h256 (unhide HM4) (unhide Hp4))
  have Hfin : Hid (fW hs fs fs.length = mW hs fs (fun _ => false)) := by
    show joinW _ _ = joinW _ _
    rw [mkF_all _ _ (by have := (unhide HF).len; omega)]
  have hbw : Below w.heap.size w wc := hb0.trans (hb4.mono (by omega))
  clear HM4 Hp4 hb0 hb4
  go_wp2_with fail
  refine (unhide Hc).mono ?_
  rintro e w6 ⟨he, hM6, hp6, hb6, hk6⟩
  subst he
  have hc6 := cell_of_box hp6
  have hl6 : mb + 1 < w6.heap.size := (Array.getElem?_eq_some_iff.1 hp6).1
  have HM6 := hide hM6
  clear hM6 hp6 hk6 Hc
  go_wp2
  go_ret
  have h9 := unhide HM6
  rw [unhide Hfin] at h9
  exact ⟨⟨mb, _, vr, rfl, ⟨_, h9⟩⟩, hbw.trans hb6⟩

end Go.Proofs.Ytjhndbfhiknngaa
