/- Merged texts: Bg Ca Ea Ma Pa Mb Mc Md Me Mf Pb Mh Mi Pc Pd Fa Fb. -/
import Derived.Test.YtjhndbfhiknngaaProg
import Derived.Test.YtjhndbfhiknngaaMarkSweptB
import Derived.WalkSmall
import Derived.Deep.RegionWith
import Derived.RegionTactic
import Derived.BigQuiet
import Derived.Maps.AppendAt

/- Walks: Check, Starts, Read; unsound. -/
namespace Go.Proofs.Ytjhndbfhiknngaa
set_option linter.unusedSimpArgs false
set_option linter.unusedVariables false
open Go.RowKit Go.Shelf

/-- What is told, whether an arena may be or not. -/
theorem ReadRes.shape {base : Nat} {ws rs : List Int} {e : Ending} {W : World} (h : ReadRes base ws rs e W) : ∃ ao no co ar nr cr sa ns sc, e = .returned (.tuple #[.agg #[.slice ao no co, .slice ar nr cr], .slice sa ns sc, .int .i64 (arenaE ws rs)]) ∧
    (arenaE ws rs ≠ 0 → ao = none ∧ no = 0 ∧ co = 0 ∧ ar = none ∧ nr = 0 ∧ cr = 0 ∧ sa = none ∧ ns = 0 ∧ sc = 0) ∧
    (arenaE ws rs = 0 → ∃ fs, splitR ws = some fs ∧ no = (readG fs rs).objs.length ∧ nr = (readG fs rs).roots.length ∧ ns = (stF 0 fs).length ∧ ObjsF base W ao (readG fs rs).objs ∧ ValsF base W ar (readG fs rs).roots ∧ IntsF base W sa (stF 0 fs)) := by
  rcases h with ⟨h1, h2⟩ | ⟨h1, fs, ao, co, ar, cr, sa, sc, h2, h3, h4, h5, h6⟩
  · exact ⟨_, _, _, _, _, _, _, _, _, h2, fun _ => ⟨rfl, rfl, rfl, rfl, rfl, rfl, rfl, rfl, rfl⟩, fun h => absurd h h1⟩
  · exact ⟨_, _, _, _, _, _, _, _, _, by rw [h3, h1], fun h => absurd h1 h, fun _ => ⟨fs, h2, rfl, rfl, rfl, h4, h5, h6⟩⟩

set_option maxRecDepth 100000 in
set_option maxHeartbeats 1000000 in
theorem acheck_c (aw ar : Option Addr) (cw cr : Nat) (ws rs : List Int) (B : Nat) (w : World) (hW : Wds B w aw ws) (hR : Wds B w ar rs) (hUW : U64 ws) (hUR : U64 rs) (hB : B ≤ w.heap.size) (hcap : ws.length ≤ cw) :
    Calls Try.prog 26 #[.agg #[.slice aw ws.length cw, .slice ar rs.length cr]] w fun e w' => e = .returned (.int .i64 (arenaE ws rs)) ∧ Below w.heap.size w w' := by
  have hb1 := (Below.refl w.heap.size w).alloc (Nat.le_refl _) (.cells #[.slice aw ws.length cw, .slice ar rs.length cr] 24)
  go_enter Try.func26, Try.ntmps26
  go_wp2_with fail
  refine (read_c _ _ _ _ ws rs B _ (hW.below (hb1.mono hB)) (hR.below (hb1.mono hB)) hUW hUR (by simp; omega) hcap).mono ?_
  rintro e w2 ⟨hres, hb2⟩
  obtain ⟨ao, no, co, ar', nr, cr', sa, ns, sc, rfl, _, _⟩ := hres.shape
  clear hres
  simp only [World.size_alloc] at hb2
  have hs2 := hb2.size
  simp only [World.size_alloc] at hs2
  go_wp2
  go_ret
  exact ⟨rfl, (hb1.trans (hb2.mono (by omega))).alloc (by omega) _⟩

def StartRes (base : Nat) (ws rs : List Int) (e : Ending) (W : World) : Prop :=
  (arenaE ws rs ≠ 0 ∧ e = .returned (.tuple #[.slice none 0 0, .int .i64 (arenaE ws rs)])) ∨ (arenaE ws rs = 0 ∧ ∃ fs sa sc, splitR ws = some fs ∧ e = .returned (.tuple #[.slice sa (stF 0 fs).length sc, .int .i64 0]) ∧ IntsF base W sa (stF 0 fs))

def AReadRes (base : Nat) (ws rs : List Int) (e : Ending) (W : World) : Prop :=
  (arenaE ws rs ≠ 0 ∧ e = .returned (.tuple #[.agg #[.slice none 0 0, .slice none 0 0], .int .i64 (arenaE ws rs)])) ∨
  (arenaE ws rs = 0 ∧ ∃ fs ao co ar cr, splitR ws = some fs ∧ e = .returned (.tuple #[.agg #[.slice ao (readG fs rs).objs.length co, .slice ar (readG fs rs).roots.length cr], .int .i64 0]) ∧ ObjsF base W ao (readG fs rs).objs ∧ ValsF base W ar (readG fs rs).roots)

set_option maxRecDepth 100000 in
set_option maxHeartbeats 400000 in
theorem unsound_c (aw ar : Option Addr) (cw cr : Nat) (ws rs : List Int) (B : Nat) (w : World) (hW : Wds B w aw ws) (hR : Wds B w ar rs) (hUW : U64 ws) (hUR : U64 rs) (hB : B ≤ w.heap.size) (hcap : ws.length ≤ cw) :
    Calls Try.prog 16 #[.agg #[.slice aw ws.length cw, .slice ar rs.length cr]] w fun e w' => e = .returned (.bool (arenaE ws rs != 0)) ∧ Below w.heap.size w w' := by
  have hb1 := (Below.refl w.heap.size w).alloc (Nat.le_refl _) (.cells #[.slice aw ws.length cw, .slice ar rs.length cr] 24)
  go_enter Try.func16, Try.ntmps16
  go_wp2_with (go_at_call 26; go_must (refine (acheck_c _ _ _ _ ws rs B _ (hW.below (hb1.mono hB)) (hR.below (hb1.mono hB)) hUW hUR (by simp; omega) hcap).mono ?_); rintro e w2 ⟨rfl, hb2⟩)
  go_ret
  exact ⟨rfl, hb1.trans (hb2.mono (by simp))⟩

end Go.Proofs.Ytjhndbfhiknngaa

/- Walks: ArenaCovers. -/
namespace Go.Proofs.Ytjhndbfhiknngaa
set_option linter.unusedSimpArgs false
set_option linter.unusedVariables false
open Go.RowKit Go.Shelf

theorem readG_len (fs : List (List Int)) (rs : List Int) : (readG fs rs).objs.length = fs.length := by simp [readG]
theorem readG_rlen (fs : List (List Int)) (rs : List Int) : (readG fs rs).roots.length = rs.length := by simp [readG]
theorem readG_flen {fs : List (List Int)} {rs : List Int} {k : Nat} {l : List V} (h : (readG fs rs).objs[k]? = some l) : ∃ hk : k < fs.length, l.length = fs[k].length := by
  have hk : k < fs.length := by have := (List.getElem?_eq_some_iff.1 h).1; rw [readG_len] at this; exact this
  refine ⟨hk, ?_⟩
  simp [readG, hk] at h
  rw [← h]
  simp

end Go.Proofs.Ytjhndbfhiknngaa

/- Plain: what is laid is read as it was; what is read is laid as it stood. -/
namespace Go.Proofs.Ytjhndbfhiknngaa
set_option linter.unusedSimpArgs false
set_option linter.unusedVariables false
open Go.RowKit

theorem uh_of_zero {x : Int} (h : uhE x = 0) : unheadOk x = true := by
  cases e : unheadOk x
  · simp [uhE, e] at h
  · rfl

theorem head_plain {n : Nat} (h : n ≤ 4) : unheadOk (headW (n : Int) false 0) = true ∧ wlen (headW (n : Int) false 0) = n ∧ 0 ≤ headW (n : Int) false 0 ∧ headW (n : Int) false 0 < 18446744073709551616 := by
  have he : headE (n : Int) 0 = 0 := by
    have : headOk (n : Int) 0 = true := by simp [headOk]; omega
    simp [headE, this]
  obtain ⟨h1, h2, h3, _, _, h6⟩ := un_head (n : Int) 0 false he
  have hk := uh_of_zero h6
  refine ⟨hk, ?_, h1, h2⟩
  have := uhL_wlen hk
  omega

theorem placeOf_nodup {st : List Int} (hn : st.Nodup) {k : Nat} {x : Int} (h : st[k]? = some x) : placeOf st x = (k : Int) := by
  have hm := List.mem_of_getElem? h
  have hi := List.idxOf_lt_length_iff.2 hm
  have hg := List.getElem_idxOf hi
  rw [placeOf, if_pos hm]
  have := (List.getElem?_inj hi hn).1 ((List.getElem?_eq_getElem hi).trans (by rw [hg, h]))
  omega

theorem packE_num {n : Int} (h1 : -4611686018427387904 ≤ n) (h2 : n ≤ 4611686018427387903) : packE false n = 0 := by
  simp only [packE, Bool.false_eq_true, if_false]; rw [if_neg (by omega)]
theorem packE_ref {n : Int} (h1 : 0 ≤ n) (h2 : n < 256) : packE true n = 0 := by
  simp only [packE, if_true]; rw [if_neg (by omega)]
theorem num_of_packE {n : Int} (h : packE false n = 0) : -4611686018427387904 ≤ n ∧ n ≤ 4611686018427387903 := by
  simp only [packE, Bool.false_eq_true, if_false] at h
  split at h <;> omega

/-- One value, there and back. -/
theorem value_back {L : List (List V)} (ht : tot L ≤ 256) {v : V} (hr : v.1 = true → 0 ≤ v.2 ∧ v.2 < L.length) (hn : v.1 = false → -4611686018427387904 ≤ v.2 ∧ v.2 ≤ 4611686018427387903) :
    okW (stF 0 L) (packV (stF 0 L) v) = true ∧ valW (stF 0 L) (packV (stF 0 L) v) = v ∧ 0 ≤ packV (stF 0 L) v ∧ packV (stF 0 L) v < 18446744073709551616 := by
  obtain ⟨r, n⟩ := v
  cases r
  · have h := hn rfl
    rw [packV_num]
    obtain ⟨h1, h2, h3, h4, h5⟩ := packE_eq false n (packE_num h.1 h.2)
    exact ⟨by simp [okW, h3, h5], by simp [valW, h3, h4], h1, h2⟩
  · have h := hr rfl
    obtain ⟨m, rfl⟩ := Int.eq_ofNat_of_zero_le h.1
    have hm : m < L.length := by have := h.2; simp at this; omega
    rw [packV_ref (by omega) (by simpa using hm)]
    simp only [Int.toNat_natCast]
    have hg := stF_get L 0 m hm
    rw [Nat.zero_add] at hg
    have hlt : tot (L.take m) < 256 := by
      have h1 := tot_take_succ hm
      have h2 := tot_take_le L (m + 1)
      omega
    obtain ⟨h1, h2, h3, h4, h5⟩ := packE_eq true ((tot (L.take m) : Nat) : Int) (packE_ref (by omega) (by omega))
    have hmem := List.mem_of_getElem? hg
    refine ⟨by simp [okW, h3, h5, h4, hmem], ?_, h1, h2⟩
    simp only [valW, h3, h4, if_true]
    rw [placeOf_nodup (stF_nodup L 0) hg]

theorem lens_fields (st : List Int) (L : List (List V)) : (layFields st L).map List.length = L.map List.length := by
  unfold layFields; rw [List.map_map]; apply List.map_congr_left; intro l _; simp

theorem map_back {L : List (List V)} (ht : tot L ≤ 256) {l : List V} (hr : ∀ v ∈ l, v.1 = true → 0 ≤ v.2 ∧ v.2 < L.length) (hn : NumOk l) :
    (l.map (packV (stF 0 L))).map (valW (stF 0 L)) = l ∧ (∀ x ∈ l.map (packV (stF 0 L)), okW (stF 0 L) x = true) ∧ U64 (l.map (packV (stF 0 L))) := by
  refine ⟨?_, ?_, ?_⟩
  · rw [List.map_map]
    conv => rhs; rw [← List.map_id l]
    apply List.map_congr_left
    intro v hv
    exact (value_back ht (hr v hv) (hn.num v hv)).2.1
  · intro x hx
    obtain ⟨v, hv, rfl⟩ := List.mem_map.1 hx
    exact (value_back ht (hr v hv) (hn.num v hv)).1
  · intro x hx
    obtain ⟨v, hv, rfl⟩ := List.mem_map.1 hx
    exact (value_back ht (hr v hv) (hn.num v hv)).2.2

theorem joinW_mem : ∀ (hs : List Int) (fs : List (List Int)) (x : Int), x ∈ joinW hs fs → x ∈ hs ∨ ∃ f ∈ fs, x ∈ f
  | h :: hs, f :: fs, x, hx => by
    simp only [joinW, List.mem_cons, List.mem_append] at hx
    rcases hx with rfl | hx | hx
    · exact .inl (by simp)
    · exact .inr ⟨f, by simp, hx⟩
    · rcases joinW_mem hs fs x hx with h1 | ⟨g, h1, h2⟩
      · exact .inl (by simp [h1])
      · exact .inr ⟨g, by simp [h1], h2⟩
  | [], _, x, hx => by simp [joinW] at hx
  | _ :: _, [], x, hx => by simp [joinW] at hx

/-- One word, there and back. -/
theorem word_back {st : List Int} (hn : st.Nodup) {x : Int} (h1 : 0 ≤ x) (h2 : x < 18446744073709551616) (h : okW st x = true) :
    packV st (valW st x) = x ∧ ((valW st x).1 = true → 0 ≤ (valW st x).2 ∧ (valW st x).2 < st.length) ∧ ((valW st x).1 = false → -4611686018427387904 ≤ (valW st x).2 ∧ (valW st x).2 ≤ 4611686018427387903) := by
  simp only [okW, Bool.and_eq_true, beq_iff_eq, Bool.or_eq_true, Bool.not_eq_true', decide_eq_true_eq] at h
  obtain ⟨he, ho⟩ := h
  obtain ⟨p1, p2⟩ := pack_un x h1 h2 he
  cases hr : unRef x
  · rw [hr] at p1 p2
    rw [valW_num hr, packV_num]
    exact ⟨p2, fun e => (by cases e), fun _ => num_of_packE p1⟩
  · rw [hr] at p2
    have hm := ho.resolve_left (by rw [hr]; simp)
    have hi := List.idxOf_lt_length_iff.2 hm
    have hg := List.getElem_idxOf hi
    rw [valW_ref hr]
    have hp : placeOf st (unNum x) = ((st.idxOf (unNum x) : Nat) : Int) := by rw [placeOf, if_pos hm]
    refine ⟨?_, fun _ => by rw [hp]; omega, fun e => by cases e⟩
    simp only [packV, if_true, hp, Int.toNat_natCast]
    rw [List.getD_eq_getElem?_getD, List.getElem?_eq_getElem hi, Option.getD_some, hg]
    exact p2

theorem lens_read (fs : List (List Int)) (rs : List Int) : (readG fs rs).objs.map List.length = fs.map List.length := by
  unfold readG; simp only; rw [List.map_map]; apply List.map_congr_left; intro l _; simp

theorem map_word_back {st l : List Int} (hn : st.Nodup) (hU : U64 l) (h : ∀ x ∈ l, okW st x = true) : (l.map (valW st)).map (packV st) = l := by
  rw [List.map_map]
  conv => rhs; rw [← List.map_id l]
  apply List.map_congr_left
  intro x hx
  exact (word_back hn (hU x hx).1 (hU x hx).2 (h x hx)).1

/-- What is read of an arena that may be. -/
theorem read_only {ws rs : List Int} {fs : List (List Int)} (hUW : U64 ws) (hUR : U64 rs) (hE : arenaE ws rs = 0) (hs : splitR ws = some fs) :
    (fs.length ≤ 24 → checkG (readG fs rs) = 0) ∧ layRoots (readG fs rs) = rs ∧ (layWords (readG fs rs)).length = ws.length ∧ ∀ i : Nat, (i : Int) ∈ stF 0 fs ∨ ws[i]? = (layWords (readG fs rs))[i]? := by
  have hsz : ws.length ≤ 256 ∧ rs.length ≤ 8 := by
    unfold arenaE at hE
    split at hE
    · omega
    · rename_i h; omega
  have hall : (rs ++ fs.flatten).all (okW (stF 0 fs)) = true := by
    unfold arenaE at hE
    rw [if_neg (by omega), hs] at hE
    simp only at hE
    split at hE
    · assumption
    · omega
  rw [List.all_eq_true] at hall
  have hokr : ∀ x ∈ rs, okW (stF 0 fs) x = true := fun x hx => hall x (List.mem_append.2 (.inl hx))
  have hokf : ∀ f ∈ fs, ∀ x ∈ f, okW (stF 0 fs) x = true := fun f hf x hx => hall x (List.mem_append.2 (.inr (List.mem_flatten.2 ⟨f, hf, hx⟩)))
  have hUf := u64_fields hs hUW
  have hnd := stF_nodup fs 0
  have hst : stF 0 (readG fs rs).objs = stF 0 fs := stF_same _ _ _ (lens_read fs rs)
  have hlf : layFields (stF 0 fs) (readG fs rs).objs = fs := by
    unfold layFields readG
    simp only
    rw [List.map_map]
    conv => rhs; rw [← List.map_id fs]
    apply List.map_congr_left
    intro f hf
    exact map_word_back hnd (hUf f hf) (hokf f hf)
  obtain ⟨hs', h1, h2, h3⟩ := split_join ws.length ws fs (Nat.le_refl _) hs
  have hhl : (layHeads (readG fs rs).objs).length = fs.length := by simp [layHeads, readG]
  have hlw : layWords (readG fs rs) = joinW (layHeads (readG fs rs).objs) fs := by unfold layWords; rw [hst, hlf]
  refine ⟨fun h24 => ?_, ?_, ?_, fun i => ?_⟩
  · have hlen : (readG fs rs).objs.length = fs.length := readG_len fs rs
    have hvals : ∀ v ∈ allV (readG fs rs), badV v (readG fs rs).objs.length = 0 := by
      intro v hv
      rw [hlen]
      have key : ∃ x, v = valW (stF 0 fs) x ∧ 0 ≤ x ∧ x < 18446744073709551616 ∧ okW (stF 0 fs) x = true := by
        unfold allV readG at hv
        rcases List.mem_append.1 hv with hv | hv
        · obtain ⟨x, hx, rfl⟩ := List.mem_map.1 hv
          exact ⟨x, rfl, (hUR x hx).1, (hUR x hx).2, hokr x hx⟩
        · obtain ⟨l, hl, hv⟩ := List.mem_flatten.1 hv
          obtain ⟨f, hf, rfl⟩ := List.mem_map.1 hl
          obtain ⟨x, hx, rfl⟩ := List.mem_map.1 hv
          exact ⟨x, rfl, (hUf f hf x hx).1, (hUf f hf x hx).2, hokf f hf x hx⟩
      obtain ⟨x, rfl, b1, b2, b3⟩ := key
      obtain ⟨_, w1, w2⟩ := word_back hnd b1 b2 b3
      unfold badV
      cases hr : (valW (stF 0 fs) x).1
      · have := w2 hr
        simp; omega
      · have := w1 hr
        rw [stF_len] at this
        simp; omega
    have hl : isLargeG (readG fs rs) = false := by
      unfold isLargeG
      rw [hlen, readG_rlen]
      simp only [Bool.or_eq_false_iff, decide_eq_false_iff_not, List.any_eq_false, decide_eq_true_eq]
      refine ⟨⟨by omega, by omega⟩, ?_⟩
      intro l hl
      unfold readG at hl
      obtain ⟨f, hf, rfl⟩ := List.mem_map.1 hl
      have := h3 f hf
      simp; omega
    unfold checkG
    rw [hl]
    have a2 : (allV (readG fs rs)).any (fun v => badV v (readG fs rs).objs.length == 2) = false := by
      rw [List.any_eq_false]; intro v hv; rw [hvals v hv]; simp
    have a3 : (allV (readG fs rs)).any (fun v => badV v (readG fs rs).objs.length == 3) = false := by
      rw [List.any_eq_false]; intro v hv; rw [hvals v hv]; simp
    rw [a2, a3]; rfl
  · unfold layRoots
    rw [hst]
    exact map_word_back hnd hUR hokr
  · rw [hlw, joinW_len _ _ hhl, ← (splitR_st hs).1]
  · rw [hlw]
    have := join_same hs' (layHeads (readG fs rs).objs) fs 0 i h1 hhl
    rw [Nat.zero_add, ← h2] at this
    exact this

end Go.Proofs.Ytjhndbfhiknngaa

/- Plain: an arena as headers and fields; marks. -/
namespace Go.Proofs.Ytjhndbfhiknngaa
set_option linter.unusedSimpArgs false
set_option linter.unusedVariables false
open Go.RowKit

/-- A header's word, with this mark. -/
def reh (b : Bool) (x : Int) : Int := headW (uhL x) b (uhA x)

theorem headE_un (x : Int) : headE (uhL x) (uhA x) = 0 := by
  have h : headOk (uhL x) (uhA x) = true := by
    unfold headOk uhL uhA
    split
    · rename_i h
      simp [unheadOk] at h
      simp
      omega
    · simp
  simp [headE, h]

theorem reh_ok (b : Bool) (x : Int) : unheadOk (reh b x) = true ∧ uhL (reh b x) = uhL x ∧ uhM (reh b x) = b ∧ uhA (reh b x) = uhA x ∧ 0 ≤ reh b x ∧ reh b x < 18446744073709551616 := by
  obtain ⟨h1, h2, h3, h4, h5, h6⟩ := un_head (uhL x) (uhA x) b (headE_un x)
  exact ⟨uh_of_zero h6, h3, h4, h5, h1, h2⟩

theorem reh_reh (b c : Bool) (x : Int) : reh b (reh c x) = reh b x := by
  have := reh_ok c x
  unfold reh at *
  rw [this.2.1, this.2.2.2.1]

theorem reh_self {x : Int} (h1 : 0 ≤ x) (h2 : x < 18446744073709551616) (h : unheadOk x = true) : reh (uhM x) x = x :=
  (head_un x h1 h2 (by simp [uhE, h])).2

theorem reh_wlen {b : Bool} {x : Int} (h : unheadOk x = true) : wlen (reh b x) = wlen x := by
  have h1 := reh_ok b x
  have h2 := uhL_wlen h1.1
  have h3 := uhL_wlen h
  have := h1.2.1
  omega

/-- Headers and fields that fit. -/
structure Fit (hs : List Int) (fs : List (List Int)) : Prop where
  len : hs.length = fs.length
  ok : ∀ (k : Nat) (x : Int) (f : List Int), hs[k]? = some x → fs[k]? = some f → unheadOk x = true ∧ wlen x = f.length ∧ 0 ≤ x ∧ x < 18446744073709551616

theorem split_fit : ∀ (n : Nat) (ws : List Int) (fs : List (List Int)), ws.length ≤ n → U64 ws → splitR ws = some fs → ∃ hs, Fit hs fs ∧ ws = joinW hs fs
  | n, [], fs, _, _, h => by
    rw [splitR_nil] at h
    injection h with h
    subst h
    exact ⟨[], ⟨rfl, by simp⟩, rfl⟩
  | 0, x :: r, fs, hn, _, h => by simp at hn
  | n + 1, x :: r, fs, hn, hU, h => by
    rw [splitR_cons] at h
    split at h
    · rename_i hc
      cases hs : splitR (r.drop (wlen x)) with
      | none => rw [hs] at h; simp at h
      | some gs =>
        rw [hs] at h
        simp only [Option.map_some, Option.some.injEq] at h
        subst h
        obtain ⟨hs', h1, h2⟩ := split_fit n _ gs (by simp at hn ⊢; omega) (U64.drop (fun y hy => hU y (by simp [hy])) _) hs
        refine ⟨x :: hs', ⟨by simp [h1.len], ?_⟩, ?_⟩
        · intro k y f hy hf
          cases k with
          | zero =>
            simp at hy hf
            subst hy hf
            have := hU x (by simp)
            exact ⟨hc.1, by rw [List.length_take]; omega, this.1, this.2⟩
          | succ k => exact h1.ok k y f (by simpa using hy) (by simpa using hf)
        · simp only [joinW, ← h2, List.take_append_drop]
    · cases h

theorem joinW_get : ∀ (hs : List Int) (fs : List (List Int)) (k : Nat), hs.length = fs.length → k < fs.length → (joinW hs fs)[tot (fs.take k)]? = hs[k]?
  | x :: hs, f :: fs, 0, _, _ => by simp [joinW, tot]
  | x :: hs, f :: fs, k + 1, h, hk => by
    have ih := joinW_get hs fs k (by simpa using h) (by simpa using hk)
    rw [List.take_succ_cons, tot_cons, show f.length + 1 + tot (fs.take k) = (f.length + tot (fs.take k)) + 1 from by omega]
    simp only [joinW, List.getElem?_cons_succ]
    rw [List.getElem?_append_right (by omega), show f.length + tot (fs.take k) - f.length = tot (fs.take k) from by omega]
    exact ih
  | _, [], k, _, hk => by simp at hk
  | [], f :: fs, k, h, _ => by simp at h

theorem joinW_set : ∀ (hs : List Int) (fs : List (List Int)) (k : Nat) (y : Int), hs.length = fs.length → k < fs.length → (joinW hs fs).set (tot (fs.take k)) y = joinW (hs.set k y) fs
  | x :: hs, f :: fs, 0, y, _, _ => by simp [joinW, tot]
  | x :: hs, f :: fs, k + 1, y, h, hk => by
    have ih := joinW_set hs fs k y (by simpa using h) (by simpa using hk)
    rw [List.take_succ_cons, tot_cons, show f.length + 1 + tot (fs.take k) = (f.length + tot (fs.take k)) + 1 from by omega]
    simp only [joinW, List.set_cons_succ]
    rw [List.set_append_right _ _ (by omega), show f.length + tot (fs.take k) - f.length = tot (fs.take k) from by omega, ih]
  | _, [], k, y, _, hk => by simp at hk
  | [], f :: fs, k, y, h, _ => by simp at h

theorem joinW_fields : ∀ (hs : List Int) (fs : List (List Int)) (k : Nat) (f : List Int), hs.length = fs.length → fs[k]? = some f → ((joinW hs fs).drop (tot (fs.take k) + 1)).take f.length = f
  | x :: hs, f :: fs, 0, g, _, hk => by
    simp at hk
    subst hk
    simp [joinW, tot]
  | x :: hs, f :: fs, k + 1, g, h, hk => by
    have ih := joinW_fields hs fs k g (by simpa using h) (by simpa using hk)
    rw [List.take_succ_cons, tot_cons, show f.length + 1 + tot (fs.take k) + 1 = (f.length + (tot (fs.take k) + 1)) + 1 from by omega]
    simp only [joinW, List.drop_succ_cons]
    rw [List.drop_append, List.drop_of_length_le (by omega), List.nil_append, show f.length + (tot (fs.take k) + 1) - f.length = tot (fs.take k) + 1 from by omega]
    exact ih
  | _, [], k, g, _, hk => by simp at hk
  | [], f :: fs, k, g, h, _ => by simp at h

/-- Headers, with these marks. -/
def mkH (hs : List Int) (p : Nat → Bool) : List Int := hs.mapIdx fun i x => reh (p i) x

theorem mkH_len (hs : List Int) (p : Nat → Bool) : (mkH hs p).length = hs.length := by simp [mkH]
theorem mkH_get (hs : List Int) (p : Nat → Bool) (k : Nat) : (mkH hs p)[k]? = (hs[k]?).map (reh (p k)) := by simp [mkH, List.getElem?_mapIdx]

/-- One mark more. -/
def upd (p : Nat → Bool) (i : Nat) : Nat → Bool := fun k => k == i || p k

theorem mkH_set {hs : List Int} {p : Nat → Bool} {i : Nat} {x : Int} (h : hs[i]? = some x) : (mkH hs p).set i (reh true x) = mkH hs (upd p i) := by
  apply List.ext_getElem?
  intro k
  rw [List.getElem?_set, mkH_get, mkH_get, mkH_len]
  have hi : i < hs.length := (List.getElem?_eq_some_iff.1 h).1
  by_cases e : i = k
  · subst e
    rw [if_pos rfl, if_pos hi, h]
    simp [upd]
  · rw [if_neg e]
    have : upd p i k = p k := by simp [upd]; omega
    rw [this]

/-- The first k headers without marks. -/
def mkF (hs : List Int) (n : Nat) : List Int := hs.mapIdx fun i x => if i < n then reh false x else x

theorem mkF_len (hs : List Int) (n : Nat) : (mkF hs n).length = hs.length := by simp [mkF]
theorem mkF_get (hs : List Int) (n k : Nat) : (mkF hs n)[k]? = (hs[k]?).map (fun x => if k < n then reh false x else x) := by simp [mkF, List.getElem?_mapIdx]
theorem mkF_zero (hs : List Int) : mkF hs 0 = hs := by
  apply List.ext_getElem?
  intro k
  rw [mkF_get]
  cases hs[k]? <;> simp
theorem mkF_all (hs : List Int) (n : Nat) (h : hs.length ≤ n) : mkF hs n = mkH hs (fun _ => false) := by
  apply List.ext_getElem?
  intro k
  rw [mkF_get, mkH_get]
  cases e : hs[k]? with
  | none => rfl
  | some x =>
    have := (List.getElem?_eq_some_iff.1 e).1
    simp only [Option.map_some]
    rw [if_pos (by omega)]
theorem mkF_set {hs : List Int} {i : Nat} {x : Int} (h : hs[i]? = some x) : (mkF hs i).set i (reh false x) = mkF hs (i + 1) := by
  apply List.ext_getElem?
  intro k
  rw [List.getElem?_set, mkF_get, mkF_get, mkF_len]
  have hi : i < hs.length := (List.getElem?_eq_some_iff.1 h).1
  by_cases e : i = k
  · subst e
    rw [if_pos rfl, if_pos hi, h]
    simp
  · rw [if_neg e]
    cases hs[k]? with
    | none => rfl
    | some y =>
      simp only [Option.map_some]
      congr 1
      by_cases hk : k < i
      · rw [if_pos hk, if_pos (by omega)]
      · rw [if_neg hk, if_neg (by omega)]

theorem fit_mkH {hs : List Int} {fs : List (List Int)} (h : Fit hs fs) (p : Nat → Bool) : Fit (mkH hs p) fs := by
  refine ⟨by rw [mkH_len]; exact h.len, fun k x f hx hf => ?_⟩
  rw [mkH_get] at hx
  cases e : hs[k]? with
  | none => rw [e] at hx; cases hx
  | some y =>
    rw [e] at hx
    simp at hx
    subst hx
    have h1 := h.ok k y f e hf
    have h2 := reh_ok (p k) y
    exact ⟨h2.1, by rw [reh_wlen h1.1]; exact h1.2.1, h2.2.2.2.2.1, h2.2.2.2.2.2⟩

theorem fit_mkF {hs : List Int} {fs : List (List Int)} (h : Fit hs fs) (n : Nat) : Fit (mkF hs n) fs := by
  refine ⟨by rw [mkF_len]; exact h.len, fun k x f hx hf => ?_⟩
  rw [mkF_get] at hx
  cases e : hs[k]? with
  | none => rw [e] at hx; cases hx
  | some y =>
    rw [e] at hx
    simp only [Option.map_some, Option.some.injEq] at hx
    have h1 := h.ok k y f e hf
    split at hx
    · subst hx
      have h2 := reh_ok false y
      exact ⟨h2.1, by rw [reh_wlen h1.1]; exact h1.2.1, h2.2.2.2.2.1, h2.2.2.2.2.2⟩
    · subst hx
      exact h1

theorem fit_split {hs : List Int} {fs : List (List Int)} (h : Fit hs fs) : splitR (joinW hs fs) = some fs :=
  join_split hs fs h.len fun k x f hx hf => ⟨(h.ok k x f hx hf).1, (h.ok k x f hx hf).2.1⟩

/-- Words that refer to object j. -/
def To (fs : List (List Int)) (l : List Int) (j : Nat) : Prop := ∃ x ∈ l, unRef x = true ∧ (stF 0 fs)[j]? = some (unNum x)

/-- What can be come to. -/
def Rch (fs : List (List Int)) (rs : List Int) (j : Nat) : Prop :=
  ∀ P : Nat → Prop, (∀ j, To fs rs j → P j) → (∀ i f j, fs[i]? = some f → P i → To fs f j → P j) → P j

theorem rch_root {fs : List (List Int)} {rs : List Int} {j : Nat} (h : To fs rs j) : Rch fs rs j := fun P h1 _ => h1 j h
theorem rch_step {fs : List (List Int)} {rs : List Int} {i j : Nat} {f : List Int} (hi : Rch fs rs i) (hf : fs[i]? = some f) (h : To fs f j) : Rch fs rs j :=
  fun P h1 h2 => h2 i f j hf (hi P h1 h2) h

/-- An arena that may be. -/
structure Arn (hs : List Int) (fs : List (List Int)) (rs : List Int) : Prop where
  fit : Fit hs fs
  n256 : tot fs ≤ 256
  n8 : rs.length ≤ 8
  ur : U64 rs
  uf : ∀ f ∈ fs, U64 f
  okr : ∀ x ∈ rs, okW (stF 0 fs) x = true
  okf : ∀ f ∈ fs, ∀ x ∈ f, okW (stF 0 fs) x = true

theorem arn_of {ws rs : List Int} (hUW : U64 ws) (hUR : U64 rs) (hE : arenaE ws rs = 0) : ∃ hs fs, Arn hs fs rs ∧ ws = joinW hs fs := by
  have hsz : ws.length ≤ 256 ∧ rs.length ≤ 8 := by
    unfold arenaE at hE
    split at hE
    · omega
    · rename_i h; omega
  cases hs : splitR ws with
  | none =>
    unfold arenaE at hE
    rw [if_neg (by omega), hs] at hE
    simp at hE
  | some fs =>
    have hall : (rs ++ fs.flatten).all (okW (stF 0 fs)) = true := by
      unfold arenaE at hE
      rw [if_neg (by omega), hs] at hE
      simp only at hE
      split at hE
      · assumption
      · omega
    rw [List.all_eq_true] at hall
    obtain ⟨h, h1, h2⟩ := split_fit ws.length ws fs (Nat.le_refl _) hUW hs
    exact ⟨h, fs, ⟨h1, by have := (splitR_st hs).1; omega, hsz.2, hUR, u64_fields hs hUW, fun x hx => hall x (List.mem_append.2 (.inl hx)), fun f hf x hx => hall x (List.mem_append.2 (.inr (List.mem_flatten.2 ⟨f, hf, hx⟩)))⟩, h2⟩

theorem joinW_u64 {hs : List Int} {fs : List (List Int)} {rs : List Int} (h : Arn hs fs rs) {hs' : List Int} (h' : Fit hs' fs) : U64 (joinW hs' fs) := by
  intro x hx
  rcases joinW_mem _ _ x hx with hx | ⟨f, hf, hx⟩
  · obtain ⟨k, hk⟩ := List.getElem?_of_mem hx
    have hlt : k < fs.length := by have := (List.getElem?_eq_some_iff.1 hk).1; have := h'.len; omega
    exact (h'.ok k x _ hk (List.getElem?_eq_getElem hlt)).2.2
  · exact h.uf f hf x hx

theorem Arn.same {hs : List Int} {fs : List (List Int)} {rs : List Int} (h : Arn hs fs rs) {hs' : List Int} (h' : Fit hs' fs) : Arn hs' fs rs := ⟨h', h.n256, h.n8, h.ur, h.uf, h.okr, h.okf⟩

theorem Arn.check {hs : List Int} {fs : List (List Int)} {rs : List Int} (h : Arn hs fs rs) : arenaE (joinW hs fs) rs = 0 := by
  refine arenaE_ok (by rw [joinW_len _ _ h.fit.len]; exact h.n256) h.n8 (fit_split h.fit) ?_
  rw [List.all_eq_true]
  intro x hx
  rcases List.mem_append.1 hx with hx | hx
  · exact h.okr x hx
  · obtain ⟨f, hf, hx⟩ := List.mem_flatten.1 hx
    exact h.okf f hf x hx

theorem ok_ref {st : List Int} {x : Int} (h : okW st x = true) : unErr x = 0 ∧ (unRef x = true → ∃ j : Nat, st[j]? = some (unNum x)) := by
  simp only [okW, Bool.and_eq_true, beq_iff_eq, Bool.or_eq_true, Bool.not_eq_true', decide_eq_true_eq] at h
  refine ⟨h.1, fun hr => ?_⟩
  rcases h.2 with h2 | h2
  · rw [hr] at h2; cases h2
  · exact List.getElem?_of_mem h2

theorem st_inj {fs : List (List Int)} {i j : Nat} {x : Int} (h1 : (stF 0 fs)[i]? = some x) (h2 : (stF 0 fs)[j]? = some x) : i = j :=
  (List.getElem?_inj (List.getElem?_eq_some_iff.1 h1).1 (stF_nodup fs 0)).1 (h1.trans h2.symm)

/-- How many are not marked. -/
def unm (n : Nat) (p : Nat → Bool) : Nat := ((List.range n).filter (fun (i : Nat) => !p i)).length

theorem filter_upd (p : Nat → Bool) (i : Nat) : ∀ (l : List Nat), l.Nodup → i ∈ l → p i = false → (l.filter fun k => !upd p i k).length + 1 = (l.filter fun k => !p k).length
  | [], _, h, _ => by simp at h
  | a :: l, hn, h, hp => by
    rw [List.nodup_cons] at hn
    by_cases e : a = i
    · subst e
      have h1 : (l.filter fun k => !upd p a k) = l.filter fun k => !p k := by
        apply List.filter_congr
        intro k hk
        have : k ≠ a := fun e => hn.1 (e ▸ hk)
        simp [upd, this]
      simp [List.filter_cons, hp, upd]
      have h2 : (l.filter fun k => !(k == a) && !p k) = l.filter fun k => !p k := by
        apply List.filter_congr
        intro k hk
        have : k ≠ a := fun e => hn.1 (e ▸ hk)
        simp [this]
      rw [h2]
    · have hm : i ∈ l := by simpa [Ne.symm e] using h
      have ih := filter_upd p i l hn.2 hm hp
      have ea : upd p i a = p a := by simp [upd, e]
      simp only [List.filter_cons, ea]
      split
      · simp only [List.length_cons]; omega
      · exact ih

theorem unm_upd {n : Nat} {p : Nat → Bool} {i : Nat} (hi : i < n) (hp : p i = false) : unm n (upd p i) + 1 = unm n p :=
  filter_upd p i _ List.nodup_range (List.mem_range.2 hi) hp

theorem upd_le {p : Nat → Bool} {i k : Nat} (h : p k = true) : upd p i k = true := by simp [upd, h]
theorem upd_self (p : Nat → Bool) (i : Nat) : upd p i i = true := by simp [upd]
theorem upd_inv {p : Nat → Bool} {i k : Nat} (h : upd p i k = true) : k = i ∨ p k = true := by simpa [upd] using h

/-- Is all that an object refers to marked? -/
def Cl (fs : List (List Int)) (p : Nat → Bool) (i : Nat) : Prop := ∀ f j, fs[i]? = some f → To fs f j → p j = true

theorem Cl.upd {fs : List (List Int)} {p : Nat → Bool} {i k : Nat} (h : Cl fs p k) : Cl fs (upd p i) k := fun f j hf ht => upd_le (h f j hf ht)

/-- All is marked that can be come to. -/
theorem marked_all {fs : List (List Int)} {rs : List Int} {p : Nat → Bool} (h1 : ∀ j, p j = true → Rch fs rs j) (h2 : ∀ j, To fs rs j → p j = true) (h3 : ∀ i, p i = true → Cl fs p i) (j : Nat) : p j = true ↔ Rch fs rs j :=
  ⟨h1 j, fun h => h (fun j => p j = true) h2 (fun i f j hf hi ht => h3 i hi f j hf ht)⟩

end Go.Proofs.Ytjhndbfhiknngaa

/- Plain: what is swept. -/
namespace Go.Proofs.Ytjhndbfhiknngaa
set_option linter.unusedSimpArgs false
set_option linter.unusedVariables false
open Go.RowKit

/-- One block more, at the end. -/
def joinB (l : List (Nat × Nat)) (b : Nat × Nat) : List (Nat × Nat) := match l.getLast? with
  | some x => if x.1 + x.2 = b.1 then l.dropLast ++ [(x.1, x.2 + b.2)] else l ++ [b]
  | none => [b]

theorem joinB_nil (b : Nat × Nat) : joinB [] b = [b] := rfl
theorem joinB_yes {l : List (Nat × Nat)} {a n : Nat} {b : Nat × Nat} (h : a + n = b.1) : joinB (l ++ [(a, n)]) b = l ++ [(a, n + b.2)] := by
  simp [joinB, h]
theorem joinB_no {l : List (Nat × Nat)} {a n : Nat} {b : Nat × Nat} (h : a + n ≠ b.1) : joinB (l ++ [(a, n)]) b = l ++ [(a, n), b] := by
  simp [joinB, h]

theorem joinB_more (l : List (Nat × Nat)) (p m : Nat) : joinB (joinB l (p, m)) (p + m, 1) = joinB l (p, m + 1) := by
  rcases List.eq_nil_or_concat l with rfl | ⟨l0, x, rfl⟩
  · rw [joinB_nil, joinB_nil]
    have := joinB_yes (l := []) (a := p) (n := m) (b := (p + m, 1)) rfl
    simpa using this
  · rw [List.concat_eq_append]
    obtain ⟨a, n⟩ := x
    by_cases h : a + n = p
    · rw [joinB_yes (b := (p, m)) h, joinB_yes (b := (p, m + 1)) h, joinB_yes (by simp; omega)]
      simp; omega
    · rw [joinB_no (b := (p, m)) h, joinB_no (b := (p, m + 1)) h]
      have := joinB_yes (l := l0 ++ [(a, n)]) (a := p) (n := m) (b := (p + m, 1)) rfl
      simpa using this

theorem joinB_len (l : List (Nat × Nat)) (b : Nat × Nat) : (joinB l b).length ≤ l.length + 1 := by
  rcases List.eq_nil_or_concat l with rfl | ⟨l0, ⟨a, n⟩, rfl⟩
  · simp [joinB_nil]
  · rw [List.concat_eq_append]
    by_cases h : a + n = b.1
    · rw [joinB_yes h]; simp
    · rw [joinB_no h]; simp

/-- What is swept of the first k objects. -/
def sweepL (hs : List Int) (fs : List (List Int)) : Nat → List (Nat × Nat)
  | 0 => []
  | k + 1 => if uhM (hs.getD k 0) then sweepL hs fs k else joinB (sweepL hs fs k) (tot (fs.take k), 1 + (fs.getD k []).length)

theorem sweep_yes {hs : List Int} {fs : List (List Int)} {k : Nat} {x : Int} (hx : hs[k]? = some x) (h : uhM x = true) : sweepL hs fs (k + 1) = sweepL hs fs k := by
  simp [sweepL, List.getD_eq_getElem?_getD, hx, h]
theorem sweep_no {hs : List Int} {fs : List (List Int)} {k : Nat} {x : Int} (hx : hs[k]? = some x) (hk : k < fs.length) (h : uhM x = false) : sweepL hs fs (k + 1) = joinB (sweepL hs fs k) (tot (fs.take k), 1 + fs[k].length) := by
  simp [sweepL, List.getD_eq_getElem?_getD, hx, h, hk]

theorem sweep_len (hs : List Int) (fs : List (List Int)) : ∀ k, (sweepL hs fs k).length ≤ k
  | 0 => by simp [sweepL]
  | k + 1 => by
    have := sweep_len hs fs k
    unfold sweepL
    split
    · omega
    · have := joinB_len (sweepL hs fs k) (tot (fs.take k), 1 + (fs.getD k []).length)
      omega

/-- How many words blocks have. -/
def sumB (l : List (Nat × Nat)) : Nat := (l.map fun x => x.2).sum

theorem sumB_snoc (l : List (Nat × Nat)) (x : Nat × Nat) : sumB (l ++ [x]) = sumB l + x.2 := by simp [sumB]

theorem sumB_join (l : List (Nat × Nat)) (b : Nat × Nat) : sumB (joinB l b) = sumB l + b.2 := by
  rcases List.eq_nil_or_concat l with rfl | ⟨l0, ⟨a, n⟩, rfl⟩
  · simp [joinB_nil, sumB]
  · rw [List.concat_eq_append]
    by_cases h : a + n = b.1
    · rw [joinB_yes h, sumB_snoc, sumB_snoc]; simp; omega
    · rw [joinB_no h]; simp [sumB]; omega

/-- Blocks that stand apart, by place, the last one ending at e at most. -/
def Apart : List (Nat × Nat) → Nat → Prop
  | l, e => (∀ x ∈ l, 1 ≤ x.2) ∧ (∀ (i : Nat) (x y : Nat × Nat), l[i]? = some x → l[i + 1]? = some y → x.1 + x.2 < y.1) ∧ (∀ x, l.getLast? = some x → x.1 + x.2 ≤ e)

theorem apart_join {l : List (Nat × Nat)} {p m : Nat} (h : Apart l p) (hm : 1 ≤ m) : Apart (joinB l (p, m)) (p + m) := by
  rcases List.eq_nil_or_concat l with rfl | ⟨l0, ⟨a, n⟩, rfl⟩
  · rw [joinB_nil]
    refine ⟨by simpa using hm, fun i x y h1 h2 => ?_, fun x hx => ?_⟩
    · simp at h2
    · simp at hx; subst hx; simp
  · rw [List.concat_eq_append] at h ⊢
    obtain ⟨h1, h2, h3⟩ := h
    have hl := h3 (a, n) (by simp)
    have hn := h1 (a, n) (by simp)
    simp only at hl hn
    by_cases e : a + n = p
    · rw [joinB_yes (b := (p, m)) e]
      refine ⟨fun x hx => ?_, fun i x y hx hy => ?_, fun x hx => ?_⟩
      · rcases List.mem_append.1 hx with hx | hx
        · exact h1 x (by simp [hx])
        · simp at hx; subst hx; simp; omega
      · by_cases hi : i + 1 < l0.length
        · rw [List.getElem?_append_left (by omega)] at hx hy
          exact h2 i x y (by rw [List.getElem?_append_left (by omega)]; exact hx) (by rw [List.getElem?_append_left (by omega)]; exact hy)
        · have hi' : i + 1 = l0.length := by
            have := (List.getElem?_eq_some_iff.1 hy).1
            simp at this
            omega
          rw [List.getElem?_append_left (by omega)] at hx
          rw [List.getElem?_append_right (by omega), hi', Nat.sub_self] at hy
          simp at hy
          subst hy
          have := h2 i x (a, n) (by rw [List.getElem?_append_left (by omega)]; exact hx) (by rw [List.getElem?_append_right (by omega), hi', Nat.sub_self]; rfl)
          simpa using this
      · simp at hx; subst hx; simp; omega
    · rw [joinB_no (b := (p, m)) e]
      refine ⟨fun x hx => ?_, fun i x y hx hy => ?_, fun x hx => ?_⟩
      · simp at hx
        rcases hx with hx | rfl | rfl
        · exact h1 x (by simp [hx])
        · exact hn
        · exact hm
      · rw [show l0 ++ [(a, n), (p, m)] = (l0 ++ [(a, n)]) ++ [(p, m)] by simp] at hx hy
        by_cases hi : i + 1 < (l0 ++ [(a, n)]).length
        · rw [List.getElem?_append_left (by omega)] at hx hy
          exact h2 i x y hx hy
        · have hi' : i + 1 = (l0 ++ [(a, n)]).length := by
            have := (List.getElem?_eq_some_iff.1 hy).1
            simp at this ⊢
            simp at hi
            omega
          rw [List.getElem?_append_left (by omega)] at hx
          rw [List.getElem?_append_right (by omega), hi', Nat.sub_self] at hy
          simp at hy
          subst hy
          have : i = l0.length := by simp at hi'; omega
          subst this
          simp at hx
          subst hx
          show a + n < p
          omega
      · simp at hx; subst hx; simp

theorem sweep_apart {hs : List Int} {fs : List (List Int)} (h : Fit hs fs) : ∀ k, k ≤ fs.length → Apart (sweepL hs fs k) (tot (fs.take k))
  | 0, _ => ⟨by simp [sweepL], by simp [sweepL], by simp [sweepL]⟩
  | k + 1, hk => by
    have ih := sweep_apart h k (by omega)
    have hk' : k < fs.length := by omega
    have hts := tot_take_succ hk'
    have hx : hs[k]? = some (hs[k]'(by have := h.len; omega)) := List.getElem?_eq_getElem _
    cases hm : uhM (hs[k]'(by have := h.len; omega))
    · rw [sweep_no hx hk' hm, hts, show tot (fs.take k) + (fs[k].length + 1) = tot (fs.take k) + (1 + fs[k].length) by omega]
      exact apart_join ih (by omega)
    · rw [sweep_yes hx hm]
      exact ⟨ih.1, ih.2.1, fun x hx => by have := ih.2.2 x hx; omega⟩

/-- How many words the marked ones of the first k objects have. -/
def markS (hs : List Int) (fs : List (List Int)) : Nat → Nat
  | 0 => 0
  | k + 1 => markS hs fs k + if uhM (hs.getD k 0) then 1 + (fs.getD k []).length else 0

theorem sweep_sum {hs : List Int} {fs : List (List Int)} (h : Fit hs fs) : ∀ k, k ≤ fs.length → sumB (sweepL hs fs k) + markS hs fs k = tot (fs.take k)
  | 0, _ => by simp [sweepL, markS, sumB, tot]
  | k + 1, hk => by
    have ih := sweep_sum h k (by omega)
    have hk' : k < fs.length := by omega
    have hts := tot_take_succ hk'
    have hx : hs[k]? = some (hs[k]'(by have := h.len; omega)) := List.getElem?_eq_getElem _
    have e1 : hs.getD k 0 = hs[k]'(by have := h.len; omega) := by rw [List.getD_eq_getElem?_getD, hx]; rfl
    have e2 : fs.getD k [] = fs[k] := by rw [List.getD_eq_getElem?_getD, List.getElem?_eq_getElem hk']; rfl
    cases hm : uhM (hs[k]'(by have := h.len; omega))
    · rw [sweep_no hx hk' hm, sumB_join, hts]
      simp only [markS, e1, hm]
      simp; omega
    · rw [sweep_yes hx hm, hts]
      simp only [markS, e1, e2, hm]
      simp; omega

end Go.Proofs.Ytjhndbfhiknngaa

/- What a marker holds, in memory. -/
namespace Go.Proofs.Ytjhndbfhiknngaa
set_option linter.unusedSimpArgs false
set_option linter.unusedVariables false
open Go.RowKit Go.Shelf

theorem grown_set (W : World) (b j : Nat) (u : Value) : W.grownBy (W.setCell ⟨b, j, none⟩ u) (some b) :=
  ⟨rfl, rfl, rfl, by simp [World.setCell], fun k _ hk => Below.heap_setCell _ _ _ _ (fun e => hk (by simp [e]))⟩

theorem ty_set {W : World} {mb : Nat} {t : TypeId} (h : ∃ cs, W.heap[mb]? = some (.cells cs t)) (j : Nat) (u : Value) : ∃ cs, (W.setCell ⟨mb, j, none⟩ u).heap[mb]? = some (.cells cs t) := by
  obtain ⟨cs, h⟩ := h
  exact ⟨_, heap_setCell_same W mb j cs t u h⟩

/-- Blocks of other types than words, numbers and markers are as they were. -/
def KeepT (W W' : World) : Prop := ∀ (k : Nat) (cs : Array Value) (t : TypeId), W.heap[k]? = some (.cells cs t) → t ≠ 55 → t ≠ 3 → t ≠ 64 → W'.heap[k]? = some (.cells cs t)

theorem KeepT.trans {a b c : World} (h : KeepT a b) (h' : KeepT b c) : KeepT a c := fun k cs t hk h1 h2 h3 => h' k cs t (h k cs t hk h1 h2 h3) h1 h2 h3
theorem KeepT.refl (W : World) : KeepT W W := fun k cs t hk _ _ _ => hk
theorem KeepT.below {W W' : World} (h : Below W.heap.size W W') : KeepT W W' := fun k cs t hk _ _ _ => by rw [h.block k (Array.getElem?_eq_some_iff.1 hk).1]; exact hk
theorem KeepT.alloc {a W : World} (h : KeepT a W) (o : Obj) : KeepT a (W.alloc o) := h.trans (KeepT.below ((Below.refl _ _).alloc (Nat.le_refl _) _))
theorem KeepT.setCell {a W : World} (h : KeepT a W) {b j : Nat} {t : TypeId} (hb : ∃ cs, W.heap[b]? = some (.cells cs t)) (ht : t = 55 ∨ t = 3 ∨ t = 64) (u : Value) : KeepT a (W.setCell ⟨b, j, none⟩ u) := by
  refine h.trans fun k cs t' hk h1 h2 h3 => ?_
  obtain ⟨cs', hb⟩ := hb
  rw [Below.heap_setCell _ _ _ _ ?_]
  · exact hk
  · intro e
    subst e
    rw [hk] at hb
    injection hb with hb
    injection hb with _ hb
    subst hb
    rcases ht with ht | ht | ht
    · exact h1 ht
    · exact h2 ht
    · exact h3 ht
theorem KeepT.grown {a W W' : World} (h : KeepT a W) {base n : Nat} {t : TypeId} {size : Nat} {v : Value} {xs : List Value} (hr : W.ownsRow base t size v n xs) (hg : W.grownBy W' v.ownBlock) (ht : t = 55 ∨ t = 3 ∨ t = 64) : KeepT a W' := by
  refine h.trans fun k cs t' hk h1 h2 h3 => ?_
  rw [hg.block k (Array.getElem?_eq_some_iff.1 hk).1 ?_]
  · exact hk
  · intro e
    rcases hr.2 with ⟨rfl, _⟩ | ⟨g, cap, cur, rfl, _, hb, _⟩
    · simp [Value.ownBlock] at e
    · obtain rfl : k = g := by simpa [Value.ownBlock] using e
      rw [hk] at hb
      injection hb with hb
      injection hb with _ hb
      subst hb
      rcases ht with ht | ht | ht
      · exact h1 ht
      · exact h2 ht
      · exact h3 ht
theorem ty_row {W : World} {base n cap g : Nat} {t : TypeId} {size : Nat} {xs : List Value} (hr : W.ownsRow base t size (.slice (some ⟨g, 0, none⟩) n cap) n xs) : ∃ cs, W.heap[g]? = some (.cells cs t) := by
  rcases hr.2 with ⟨h, _⟩ | ⟨g', cap', cur, h, _, hb, _⟩
  · cases h
  · cases h
    exact ⟨cur, hb⟩

/-- The five cells of a marker. -/
structure MBox (W : World) (mb : Nat) (vw vr : Value) (room : Nat) (vk : Value) (lost : Bool) : Prop where
  c0 : W.cell? ⟨mb, 0, none⟩ = some vw
  c1 : W.cell? ⟨mb, 1, none⟩ = some vr
  c2 : W.cell? ⟨mb, 2, none⟩ = some (.int .i64 room)
  c3 : W.cell? ⟨mb, 3, none⟩ = some vk
  c4 : W.cell? ⟨mb, 4, none⟩ = some (.bool lost)
  fr : ∀ j, W.frozen? ⟨mb, j, none⟩ = false
  ty : ∃ cs, W.heap[mb]? = some (.cells cs 64)

theorem MBox.kept {W W' : World} {mb : Nat} {vw vr vk : Value} {room : Nat} {lost : Bool} (h : MBox W mb vw vr room vk lost) (hb : W'.heap[mb]? = W.heap[mb]?) : MBox W' mb vw vr room vk lost :=
  ⟨(World.cell?_of_block (a := ⟨mb, 0, none⟩) hb).trans h.c0, (World.cell?_of_block (a := ⟨mb, 1, none⟩) hb).trans h.c1, (World.cell?_of_block (a := ⟨mb, 2, none⟩) hb).trans h.c2, (World.cell?_of_block (a := ⟨mb, 3, none⟩) hb).trans h.c3, (World.cell?_of_block (a := ⟨mb, 4, none⟩) hb).trans h.c4,
    fun j => (World.frozen?_of_block (a := ⟨mb, j, none⟩) hb).trans (h.fr j), by rw [hb]; exact h.ty⟩

theorem MBox.lt {W : World} {mb : Nat} {vw vr vk : Value} {room : Nat} {lost : Bool} (h : MBox W mb vw vr room vk lost) : mb < W.heap.size := World.block_lt_of_cell? W _ h.c0

theorem MBox.set0 {W : World} {mb : Nat} {vw vr vk : Value} {room : Nat} {lost : Bool} (h : MBox W mb vw vr room vk lost) (v : Value) : MBox (W.setCell ⟨mb, 0, none⟩ v) mb v vr room vk lost := by
  refine ⟨World.cell?_setCell_same' _ _ _ (by rw [h.c0]; rfl), ?_, ?_, ?_, ?_, fun j => by rw [World.frozen?_setCell]; exact h.fr j, ty_set h.ty _ _⟩
  · rw [World.cell?_setCell_other _ _ _ _ (by simp)]; exact h.c1
  · rw [World.cell?_setCell_other _ _ _ _ (by simp)]; exact h.c2
  · rw [World.cell?_setCell_other _ _ _ _ (by simp)]; exact h.c3
  · rw [World.cell?_setCell_other _ _ _ _ (by simp)]; exact h.c4

theorem MBox.set1 {W : World} {mb : Nat} {vw vr vk : Value} {room : Nat} {lost : Bool} (h : MBox W mb vw vr room vk lost) (v : Value) : MBox (W.setCell ⟨mb, 1, none⟩ v) mb vw v room vk lost := by
  refine ⟨?_, World.cell?_setCell_same' _ _ _ (by rw [h.c1]; rfl), ?_, ?_, ?_, fun j => by rw [World.frozen?_setCell]; exact h.fr j, ty_set h.ty _ _⟩
  · rw [World.cell?_setCell_other _ _ _ _ (by simp)]; exact h.c0
  · rw [World.cell?_setCell_other _ _ _ _ (by simp)]; exact h.c2
  · rw [World.cell?_setCell_other _ _ _ _ (by simp)]; exact h.c3
  · rw [World.cell?_setCell_other _ _ _ _ (by simp)]; exact h.c4

theorem MBox.set3 {W : World} {mb : Nat} {vw vr vk : Value} {room : Nat} {lost : Bool} (h : MBox W mb vw vr room vk lost) (v : Value) : MBox (W.setCell ⟨mb, 3, none⟩ v) mb vw vr room v lost := by
  refine ⟨?_, ?_, ?_, World.cell?_setCell_same' _ _ _ (by rw [h.c3]; rfl), ?_, fun j => by rw [World.frozen?_setCell]; exact h.fr j, ty_set h.ty _ _⟩
  · rw [World.cell?_setCell_other _ _ _ _ (by simp)]; exact h.c0
  · rw [World.cell?_setCell_other _ _ _ _ (by simp)]; exact h.c1
  · rw [World.cell?_setCell_other _ _ _ _ (by simp)]; exact h.c2
  · rw [World.cell?_setCell_other _ _ _ _ (by simp)]; exact h.c4

theorem MBox.set4 {W : World} {mb : Nat} {vw vr vk : Value} {room : Nat} {lost : Bool} (h : MBox W mb vw vr room vk lost) (b : Bool) : MBox (W.setCell ⟨mb, 4, none⟩ (.bool b)) mb vw vr room vk b := by
  refine ⟨?_, ?_, ?_, ?_, World.cell?_setCell_same' _ _ _ (by rw [h.c4]; rfl), fun j => by rw [World.frozen?_setCell]; exact h.fr j, ty_set h.ty _ _⟩
  · rw [World.cell?_setCell_other _ _ _ _ (by simp)]; exact h.c0
  · rw [World.cell?_setCell_other _ _ _ _ (by simp)]; exact h.c1
  · rw [World.cell?_setCell_other _ _ _ _ (by simp)]; exact h.c2
  · rw [World.cell?_setCell_other _ _ _ _ (by simp)]; exact h.c3

/-- A marker: its words, its roots, the places that are kept. -/
structure Mk (W : World) (N mb : Nat) (vw vr vk : Value) (ws rs K : List Int) (room : Nat) (lost : Bool) : Prop where
  box : MBox W mb vw vr room vk lost
  lo : N ≤ mb
  wo : W.ownsRow N 55 1 vw ws.length (wordsV ws)
  ro : W.ownsRow N 55 1 vr rs.length (wordsV rs)
  ko : W.ownsRow N 3 1 vk K.length (intsV K)
  aw : vw.ownBlock ≠ some mb
  ar : vr.ownBlock ≠ some mb
  ak : vk.ownBlock ≠ some mb
  wr : ∀ k, vw.ownBlock = some k → vr.ownBlock ≠ some k
  wk : ∀ k, vw.ownBlock = some k → vk.ownBlock ≠ some k
  rk : ∀ k, vr.ownBlock = some k → vk.ownBlock ≠ some k

theorem or_ne {v : Value} {k : Nat} (h : v.ownBlock ≠ some k) : v.ownBlock = none ∨ v.ownBlock ≠ some k := .inr h

theorem Mk.below {W W' : World} {N mb : Nat} {vw vr vk : Value} {ws rs K : List Int} {room : Nat} {lost : Bool} (h : Mk W N mb vw vr vk ws rs K room lost) (hb : Below W.heap.size W W') : Mk W' N mb vw vr vk ws rs K room lost :=
  ⟨h.box.kept (hb.block _ h.box.lt), h.lo, ownsRow_below h.wo hb, ownsRow_below h.ro hb, ownsRow_below h.ko hb, h.aw, h.ar, h.ak, h.wr, h.wk, h.rk⟩

theorem Mk.alloc {W : World} {N mb : Nat} {vw vr vk : Value} {ws rs K : List Int} {room : Nat} {lost : Bool} (h : Mk W N mb vw vr vk ws rs K room lost) (o : Obj) : Mk (W.alloc o) N mb vw vr vk ws rs K room lost :=
  h.below ((Below.refl _ _).alloc (Nat.le_refl _) _)

/-- Behind a store of a word. -/
theorem Mk.setW {W : World} {N mb wb cap n : Nat} {vr vk : Value} {ws rs K : List Int} {room : Nat} {lost : Bool} (h : Mk W N mb (.slice (some ⟨wb, 0, none⟩) n cap) vr vk ws rs K room lost) (hn : n = ws.length) (j : Nat) (y : Int) :
    Mk (W.setCell ⟨wb, j, none⟩ (.int .u64 y)) N mb (.slice (some ⟨wb, 0, none⟩) n cap) vr vk (ws.set j y) rs K room lost := by
  subst hn
  have hg := grown_set W wb j (.int .u64 y)
  have e : wordsV (ws.set j y) = (wordsV ws).set j (.int .u64 y) := by simp [wordsV, List.map_set]
  refine ⟨h.box.kept (hg.block _ h.box.lt (fun e => h.aw e.symm)), h.lo, ?_, h.ro.kept hg (or_ne (h.wr wb rfl)), h.ko.kept hg (or_ne (h.wk wb rfl)), h.aw, h.ar, h.ak, h.wr, h.wk, h.rk⟩
  rw [e, List.length_set]
  exact (h.wo.stored j (.int .u64 y)).1

/-- Behind a store of whether something was lost. -/
theorem Mk.setL {W : World} {N mb : Nat} {vw vr vk : Value} {ws rs K : List Int} {room : Nat} {lost : Bool} (h : Mk W N mb vw vr vk ws rs K room lost) (b : Bool) : Mk (W.setCell ⟨mb, 4, none⟩ (.bool b)) N mb vw vr vk ws rs K room b := by
  have hg := grown_set W mb 4 (.bool b)
  exact ⟨h.box.set4 b, h.lo, h.wo.kept hg (or_ne h.aw), h.ro.kept hg (or_ne h.ar), h.ko.kept hg (or_ne h.ak), h.aw, h.ar, h.ak, h.wr, h.wk, h.rk⟩

/-- Behind a store of the kept places. -/
theorem Mk.setK {W : World} {N mb : Nat} {vw vr vk vk' : Value} {ws rs K' : List Int} {room : Nat} {lost : Bool} (h : MBox W mb vw vr room vk lost) (lo : N ≤ mb) (wo : W.ownsRow N 55 1 vw ws.length (wordsV ws)) (ro : W.ownsRow N 55 1 vr rs.length (wordsV rs))
    (ko : W.ownsRow N 3 1 vk' K'.length (intsV K')) (aw : vw.ownBlock ≠ some mb) (ar : vr.ownBlock ≠ some mb) (ak : vk'.ownBlock ≠ some mb) (wr : ∀ k, vw.ownBlock = some k → vr.ownBlock ≠ some k) (wk : ∀ k, vw.ownBlock = some k → vk'.ownBlock ≠ some k) (rk : ∀ k, vr.ownBlock = some k → vk'.ownBlock ≠ some k) :
    Mk (W.setCell ⟨mb, 3, none⟩ vk') N mb vw vr vk' ws rs K' room lost := by
  have hg := grown_set W mb 3 vk'
  exact ⟨h.set3 vk', lo, wo.kept hg (or_ne aw), ro.kept hg (or_ne ar), ko.kept hg (or_ne ak), aw, ar, ak, wr, wk, rk⟩

/-- One place less. -/
theorem Mk.pop {W : World} {N mb g cap n : Nat} {vw vr : Value} {ws rs K : List Int} {x : Int} {room : Nat} {lost : Bool} (h : Mk W N mb vw vr (.slice (some ⟨g, 0, none⟩) (n + 1) cap) ws rs (K ++ [x]) room lost) (hn : K.length = n) :
    Mk (W.setCell ⟨mb, 3, none⟩ (.slice (some ⟨g, 0, none⟩) n cap)) N mb vw vr (.slice (some ⟨g, 0, none⟩) n cap) ws rs K room lost := by
  refine Mk.setK h.box h.lo h.wo h.ro ?_ h.aw h.ar h.ak h.wr h.wk h.rk
  have := h.ko
  rw [intsV_snoc, List.length_append] at this
  subst hn
  exact ownsRow_pop (by simp [intsV]) this

/-- One place more: behind the append and the store. -/
theorem Mk.push {W w1 : World} {N mb : Nat} {vw vr vk v' : Value} {ws rs K : List Int} {x : Int} {room : Nat} {lost : Bool} (h : Mk W N mb vw vr vk ws rs K room lost) (hrow : w1.ownsRow N 3 1 v' (K.length + 1) (intsV K ++ [.int .i64 x])) (hg : W.grownBy w1 vk.ownBlock)
    (hat : v'.ownBlock = vk.ownBlock ∨ v'.ownBlock = some W.heap.size) : MBox w1 mb vw vr room vk lost ∧ Mk (w1.setCell ⟨mb, 3, none⟩ v') N mb vw vr v' ws rs (K ++ [x]) room lost := by
  have hbox : MBox w1 mb vw vr room vk lost := h.box.kept (hg.block _ h.box.lt (fun e => h.ak e.symm))
  have apart : ∀ {u : Value}, (∀ k, u.ownBlock = some k → k < W.heap.size) → (∀ k, u.ownBlock = some k → vk.ownBlock ≠ some k) → ∀ k, u.ownBlock = some k → v'.ownBlock ≠ some k := by
    intro u h1 h2 k hk e
    rcases hat with h | h
    · exact h2 k hk (h ▸ e)
    · rw [h] at e; injection e with e; have := h1 k hk; omega
  refine ⟨hbox, Mk.setK hbox h.lo (h.wo.kept hg ?_) (h.ro.kept hg ?_) ?_ h.aw h.ar ?_ h.wr (apart (fun k hk => (h.wo.lt k hk).2) h.wk) (apart (fun k hk => (h.ro.lt k hk).2) h.rk)⟩
  · cases hv : vw.ownBlock with
    | none => exact .inl rfl
    | some k => exact .inr fun e => h.wk k hv e.symm
  · cases hv : vr.ownBlock with
    | none => exact .inl rfl
    | some k => exact .inr fun e => h.rk k hv e.symm
  · rw [intsV_snoc, List.length_append]; exact hrow
  · rcases hat with h1 | h1
    · rw [h1]; exact h.ak
    · rw [h1]; intro e; injection e with e; have := h.box.lt; omega

/-- The words, where there are some. -/
theorem Mk.words {W : World} {N mb : Nat} {vw vr vk : Value} {ws rs K : List Int} {room : Nat} {lost : Bool} (h : Mk W N mb vw vr vk ws rs K room lost) (hne : 0 < ws.length) : ∃ wb cap, vw = .slice (some ⟨wb, 0, none⟩) ws.length cap ∧ N ≤ wb ∧ wb < W.heap.size ∧ ws.length ≤ cap := by
  rcases h.wo.2 with ⟨_, h0⟩ | ⟨g, cap, cur, hv, h1, h2, h3, h4, h5, h6⟩
  · omega
  · exact ⟨g, cap, hv, h1, (Array.getElem?_eq_some_iff.1 h2).1, h3⟩

theorem Mk.wcell {W : World} {N mb wb cap n : Nat} {vr vk : Value} {ws rs K : List Int} {room : Nat} {lost : Bool} (h : Mk W N mb (.slice (some ⟨wb, 0, none⟩) n cap) vr vk ws rs K room lost) (hn : n = ws.length) {j : Nat} {x : Int} (hx : ws[j]? = some x) :
    W.cell? ⟨wb, j, none⟩ = some (.int .u64 x) ∧ W.frozen? ⟨wb, j, none⟩ = false := by
  subst hn
  have hlt := (List.getElem?_eq_some_iff.1 hx).1
  refine ⟨?_, h.wo.frozenAt j⟩
  rw [h.wo.cellAt j (by omega)]
  simp [wordsV, hx]

theorem Mk.wds {W : World} {N mb : Nat} {vw vr vk : Value} {ws rs K : List Int} {room : Nat} {lost : Bool} (h : Mk W N mb vw vr vk ws rs K room lost) (hs : ws.length ≤ 256) : ∃ a cap, vw = .slice a ws.length cap ∧ Wds W.heap.size W a ws ∧ ws.length ≤ cap := by
  obtain ⟨a, cap, hv, hW, _⟩ := words_of_owns h.wo rfl (by omega)
  refine ⟨a, cap, hv, hW, ?_⟩
  rcases h.wo.2 with ⟨_, h0⟩ | ⟨g, cap', cur, hv', h1, h2, h3, h4, h5, h6⟩
  · omega
  · rw [hv] at hv'; injection hv' with _ _ e; omega

theorem Mk.rds {W : World} {N mb : Nat} {vw vr vk : Value} {ws rs K : List Int} {room : Nat} {lost : Bool} (h : Mk W N mb vw vr vk ws rs K room lost) (hs : rs.length ≤ 8) : ∃ a cap, vr = .slice a rs.length cap ∧ Wds W.heap.size W a rs := by
  obtain ⟨a, cap, hv, hW, _⟩ := words_of_owns h.ro rfl (by omega)
  exact ⟨a, cap, hv, hW⟩

/-- The last place that is kept. -/
theorem Mk.last {W : World} {N mb : Nat} {vw vr vk : Value} {ws rs K : List Int} {x : Int} {room : Nat} {lost : Bool} (h : Mk W N mb vw vr vk ws rs (K ++ [x]) room lost) : ∃ g cap, vk = .slice (some ⟨g, 0, none⟩) (K.length + 1) cap ∧ K.length + 1 ≤ cap ∧ g < W.heap.size ∧ W.cell? ⟨g, K.length, none⟩ = some (.int .i64 x) := by
  have hk := h.ko
  rw [List.length_append, List.length_singleton] at hk
  obtain ⟨g, cap, hv⟩ := ownsRow_succ hk
  subst hv
  have hb := hk.2
  rcases hb with ⟨h0, _⟩ | ⟨g', cap', cur, hv', h1, h2, h3, h4, h5, h6⟩
  · cases h0
  · refine ⟨g, cap, rfl, ?_, (hk.lt g rfl).2, ?_⟩
    · injection hv' with _ _ e; omega
    · rw [hk.cellAt K.length (by omega)]; simp [intsV]

end Go.Proofs.Ytjhndbfhiknngaa

/- Walks: header, set, fields. -/
namespace Go.Proofs.Ytjhndbfhiknngaa
set_option linter.unusedSimpArgs false
set_option linter.unusedVariables false
open Go.RowKit Go.Shelf

/-- A field of a header that a call told. -/
theorem field51_0 (l a : Int) (m : Bool) (w : World) : Sem.run Try.prog (Instr.field 51 (.agg #[.int .i64 l, .bool m, .int .i64 a]) 0) w = Result.ok (.int .i64 l) w := by
  simp [Instr.field, asAgg, go_sem, Try.underlying51]
theorem field51_1 (l a : Int) (m : Bool) (w : World) : Sem.run Try.prog (Instr.field 51 (.agg #[.int .i64 l, .bool m, .int .i64 a]) 1) w = Result.ok (.bool m) w := by
  simp [Instr.field, asAgg, go_sem, Try.underlying51]

set_option maxRecDepth 100000 in
set_option maxHeartbeats 1000000 in
theorem header_c (mb wb n cap p : Nat) (x : Int) (w : World) (h0 : w.cell? ⟨mb, 0, none⟩ = some (.slice (some ⟨wb, 0, none⟩) n cap)) (hx : w.cell? ⟨wb, p, none⟩ = some (.int .u64 x)) (hp : p < n) (hn : n ≤ 256) (h1 : 0 ≤ x) (h2 : x < 18446744073709551616) :
    Calls Try.prog 54 #[.pointer (some ⟨mb, 0, none⟩), .int .i64 (p : Nat)] w fun e w' => e = .returned (.agg #[.int .i64 (uhL x), .bool (uhM x), .int .i64 (uhA x)]) ∧ Below w.heap.size w w' := by
  have hb0 : Below w.heap.size w (w.alloc (.cells #[.int .i64 0, .bool false, .int .i64 0] 51)) := (Below.refl _ _).alloc (Nat.le_refl _) _
  have hlm : mb < w.heap.size := World.block_lt_of_cell? w _ h0
  have hlw : wb < w.heap.size := World.block_lt_of_cell? w _ hx
  have hpI : (p : Int) < (n : Int) := by omega
  go_enter Try.func54, Try.ntmps54
  go_wp2_with fail
  refine (unhead_c x _ h1 h2).mono ?_
  rintro e w2 ⟨rfl, hb2⟩
  simp only [World.size_alloc] at hb2
  have g0 := hb2.cell (p := ⟨w.heap.size, 0, none⟩) (show w.heap.size < _ by omega)
  have g1 := hb2.cell (p := ⟨w.heap.size, 1, none⟩) (show w.heap.size < _ by omega)
  have g2 := hb2.cell (p := ⟨w.heap.size, 2, none⟩) (show w.heap.size < _ by omega)
  have f0 := hb2.frozen (p := ⟨w.heap.size, 0, none⟩) (show w.heap.size < _ by omega)
  have f1 := hb2.frozen (p := ⟨w.heap.size, 1, none⟩) (show w.heap.size < _ by omega)
  have f2 := hb2.frozen (p := ⟨w.heap.size, 2, none⟩) (show w.heap.size < _ by omega)
  simp [go_sem] at g0 g1 g2 f0 f1 f2
  have hs2 := hb2.size
  simp only [World.size_alloc] at hs2
  have hlt2 : w.heap.size < w2.heap.size := by omega
  have hbw2 := hb0.trans (hb2.mono (by omega))
  clear hb0 hb2
  go_wp2
  obtain ⟨W3, hW3⟩ : ∃ W3, ((w2.setCell ⟨w.heap.size, 0, none⟩ (.int .i64 (uhL x))).setCell ⟨w.heap.size, 1, none⟩ (.bool (uhM x))).setCell ⟨w.heap.size, 2, none⟩ (.int .i64 (uhA x)) = W3 := ⟨_, rfl⟩
  have i0 : W3.cell? ⟨w.heap.size, 0, none⟩ = some (.int .i64 (uhL x)) := by rw [← hW3]; simp [go_sem, g0, g1, g2]
  have i1 : W3.cell? ⟨w.heap.size, 1, none⟩ = some (.bool (uhM x)) := by rw [← hW3]; simp [go_sem, g0, g1, g2]
  have i2 : W3.cell? ⟨w.heap.size, 2, none⟩ = some (.int .i64 (uhA x)) := by rw [← hW3]; simp [go_sem, g0, g1, g2]
  have hlt3 : w.heap.size < W3.heap.size := by rw [← hW3]; simpa [World.setCell] using hlt2
  have hb3 : Below w.heap.size w W3 := by rw [← hW3]; exact ((hbw2.setCell (p := ⟨w.heap.size, 0, none⟩) (Nat.le_refl _) _).setCell (p := ⟨w.heap.size, 1, none⟩) (Nat.le_refl _) _).setCell (p := ⟨w.heap.size, 2, none⟩) (Nat.le_refl _) _
  rw [hW3]
  clear hW3
  obtain ⟨W4, hW4⟩ : ∃ W4, W3.alloc (.cells #[.int .i64 (uhL x), .bool (uhM x), .int .i64 (uhA x)] 51) = W4 := ⟨_, rfl⟩
  rw [hW4]
  have hb4 : Below w.heap.size w W4 := by rw [← hW4]; exact hb3.alloc (by omega) _
  have k0 : W4.cell? ⟨w.heap.size, 0, none⟩ = some (.int .i64 (uhL x)) := by rw [← hW4, World.cell?_alloc_past _ _ _ hlt3]; exact i0
  have k1 : W4.cell? ⟨w.heap.size, 1, none⟩ = some (.bool (uhM x)) := by rw [← hW4, World.cell?_alloc_past _ _ _ hlt3]; exact i1
  have k2 : W4.cell? ⟨w.heap.size, 2, none⟩ = some (.int .i64 (uhA x)) := by rw [← hW4, World.cell?_alloc_past _ _ _ hlt3]; exact i2
  refine bodyPost_ret (v := .agg #[.int .i64 (uhL x), .bool (uhM x), .int .i64 (uhA x)]) (by simp [results, Try.results54, go_sem, k0, k1, k2]) rfl ?_
  exact ⟨rfl, hb4⟩

set_option maxRecDepth 100000 in
set_option maxHeartbeats 2000000 in
theorem set_w (mb wb n cap p : Nat) (x L A : Int) (M b : Bool) (w : World) (h0 : w.cell? ⟨mb, 0, none⟩ = some (.slice (some ⟨wb, 0, none⟩) n cap)) (hx : w.cell? ⟨wb, p, none⟩ = some (.int .u64 x)) (hf : w.frozen? ⟨wb, p, none⟩ = false) (hp : p < n) (hn : n ≤ 256) :
    Calls Try.prog 40 #[.pointer (some ⟨mb, 0, none⟩), .int .i64 (p : Nat), .agg #[.int .i64 L, .bool M, .int .i64 A], .bool b] w fun e w' => e = .returned (.tuple #[]) ∧ ∃ w1, Below w.heap.size w w1 ∧ w' = w1.setCell ⟨wb, p, none⟩ (.int .u64 (headW L b A)) := by
  have hlm : mb < w.heap.size := World.block_lt_of_cell? w _ h0
  have hlw : wb < w.heap.size := World.block_lt_of_cell? w _ hx
  have hpI : (p : Int) < (n : Int) := by omega
  have hb0 : Below w.heap.size w (w.alloc (.cells #[.int .i64 L, .bool b, .int .i64 A] 51)) := (Below.refl _ _).alloc (Nat.le_refl _) _
  go_enter Try.func40, Try.ntmps40
  go_wp2
  go_region_with (go_at_call 52; go_must (refine (head_c L A b _).mono ?_); go_must (rintro e w2 ⟨he, hb2⟩; subst he; have k0 := (hb2.cell (p := ⟨mb, 0, none⟩) (by simp; omega)).trans ((hb0.cell (p := ⟨mb, 0, none⟩) hlm).trans h0); have kx := (hb2.cell (p := ⟨wb, p, none⟩) (by simp; omega)).trans ((hb0.cell (p := ⟨wb, p, none⟩) hlw).trans hx); have kf := (hb2.frozen (p := ⟨wb, p, none⟩) (by simp; omega)).trans ((hb0.frozen (p := ⟨wb, p, none⟩) hlw).trans hf)))
  all_goals
    refine bodyPost_end (v := .tuple #[]) (results_none rfl _ _ _) rfl ⟨rfl, _, ?_, rfl⟩
    exact hb0.drew.trans (hb2.mono (by show w.heap.size ≤ (w.heap.push _).size; simp))

end Go.Proofs.Ytjhndbfhiknngaa

/- Walks: fields. -/
namespace Go.Proofs.Ytjhndbfhiknngaa
set_option linter.unusedSimpArgs false
set_option linter.unusedVariables false
open Go.RowKit Go.Shelf
attribute [local go_sem] field51_0 field51_1

def FldRes (wb p l : Nat) (e : Ending) : Prop := ∃ a c, e = .returned (.slice a l c) ∧ (0 < l → a = some ⟨wb, p + 1, none⟩)

set_option maxRecDepth 100000 in
set_option maxHeartbeats 2000000 in
theorem fields_c (mb wb n cap p : Nat) (x : Int) (w : World) (h0 : w.cell? ⟨mb, 0, none⟩ = some (.slice (some ⟨wb, 0, none⟩) n cap)) (hx : w.cell? ⟨wb, p, none⟩ = some (.int .u64 x)) (hn : n ≤ 256) (hcap : n ≤ cap) (h1 : 0 ≤ x) (h2 : x < 18446744073709551616)
    (hk : unheadOk x = true) (hend : p + 1 + wlen x ≤ n) :
    Calls Try.prog 55 #[.pointer (some ⟨mb, 0, none⟩), .int .i64 (p : Nat)] w fun e w' => FldRes wb p (wlen x) e ∧ Below w.heap.size w w' := by
  have hlm : mb < w.heap.size := World.block_lt_of_cell? w _ h0
  have hlw : wb < w.heap.size := World.block_lt_of_cell? w _ hx
  have HL := hide (uhL_wlen hk)
  have hp : p < n := by omega
  have h4 := wlen_le hk
  have Hh := hide (header_c mb wb n cap p x w.drew h0 hx hp hn h1 h2)
  have w1 : IntKind.i64.wrap ((p : Int) + 1) = (p : Int) + 1 := by rw [IntKind.wrap_i64]; omega
  clear hk
  generalize wlen x = l at *
  by_cases hcp : cap = p + 1
  · subst hcp
    obtain rfl : l = 0 := by omega
    go_enter Try.func55, Try.ntmps55
    go_wp2
    go_region_with (go_at_call 54; go_must (refine (unhide Hh).mono ?_); go_must (rintro e w2 ⟨he, hb2⟩; rw [unhide HL] at he; subst he; have k0 := (hb2.cell (p := ⟨mb, 0, none⟩) hlm).trans h0))
    all_goals
      go_wp2
      go_ret
      exact ⟨⟨_, _, rfl, fun h => absurd h (by omega)⟩, (Below.refl _ w).drew.trans hb2⟩
  · have hcp1 : p + 1 < cap := by omega
    go_enter Try.func55, Try.ntmps55
    go_wp2
    go_region_with (go_at_call 54; go_must (refine (unhide Hh).mono ?_); go_must (rintro e w2 ⟨he, hb2⟩; rw [unhide HL] at he; subst he; have k0 := (hb2.cell (p := ⟨mb, 0, none⟩) hlm).trans h0))
    all_goals
      go_wp2
      go_ret
      exact ⟨⟨_, _, rfl, fun _ => by simp⟩, (Below.refl _ w).drew.trans hb2⟩

end Go.Proofs.Ytjhndbfhiknngaa

/- Walks: unmarked. -/
namespace Go.Proofs.Ytjhndbfhiknngaa
set_option linter.unusedSimpArgs false
set_option linter.unusedVariables false
open Go.RowKit Go.Shelf
attribute [local go_sem] field51_0 field51_1

/-- The arena that is being marked: its headers with these marks. -/
def mW (hs : List Int) (fs : List (List Int)) (p : Nat → Bool) : List Int := joinW (mkH hs p) fs

theorem mW_len {hs : List Int} {fs : List (List Int)} (h : Fit hs fs) (p : Nat → Bool) : (mW hs fs p).length = tot fs := by
  rw [mW, joinW_len _ _ (by rw [mkH_len]; exact h.len)]

theorem mW_get {hs : List Int} {fs : List (List Int)} (h : Fit hs fs) (p : Nat → Bool) {i : Nat} {x : Int} (hx : hs[i]? = some x) : (mW hs fs p)[tot (fs.take i)]? = some (reh (p i) x) := by
  have hi : i < fs.length := by have := (List.getElem?_eq_some_iff.1 hx).1; have := h.len; omega
  rw [mW, joinW_get _ _ _ (by rw [mkH_len]; exact h.len) hi, mkH_get, hx]
  rfl

theorem mW_set {hs : List Int} {fs : List (List Int)} (h : Fit hs fs) (p : Nat → Bool) {i : Nat} {x : Int} (hx : hs[i]? = some x) : (mW hs fs p).set (tot (fs.take i)) (reh true x) = mW hs fs (upd p i) := by
  have hi : i < fs.length := by have := (List.getElem?_eq_some_iff.1 hx).1; have := h.len; omega
  rw [mW, joinW_set _ _ _ _ (by rw [mkH_len]; exact h.len) hi, mkH_set hx, mW]

theorem place_lt {fs : List (List Int)} {i : Nat} (h : i < fs.length) : tot (fs.take i) < tot fs := by
  have h1 := tot_take_succ h
  have h2 := tot_take_le fs (i + 1)
  omega

theorem fit_at {hs : List Int} {fs : List (List Int)} (h : Fit hs fs) {i : Nat} (hi : i < fs.length) : ∃ x, hs[i]? = some x ∧ unheadOk x = true ∧ wlen x = fs[i].length ∧ 0 ≤ x ∧ x < 18446744073709551616 := by
  have hi' : i < hs.length := by have := h.len; omega
  exact ⟨hs[i], List.getElem?_eq_getElem hi', h.ok i _ _ (List.getElem?_eq_getElem hi') (List.getElem?_eq_getElem hi)⟩

/-- What unmarked tells: the first object that is not marked, to which words refer. -/
def UnRes (fs : List (List Int)) (p : Nat → Bool) (l : List Int) (e : Ending) : Prop :=
  (∃ j, j < fs.length ∧ p j = false ∧ To fs l j ∧ e = .returned (.tuple #[.int .i64 (tot (fs.take j) : Nat), .bool true])) ∨
    ((∀ j, To fs l j → p j = true) ∧ e = .returned (.tuple #[.int .i64 0, .bool false]))

set_option maxRecDepth 100000 in
set_option maxHeartbeats 2000000 in
theorem unmarked_c (a : Option Addr) (c : Nat) (l : List Int) (hs : List Int) (fs : List (List Int)) (p : Nat → Bool) (N mb : Nat) (vw vr vk : Value) (rs K : List Int) (room : Nat) (lost : Bool) (w : World)
    (hM : Mk w N mb vw vr vk (mW hs fs p) rs K room lost) (hF : Fit hs fs) (h256 : tot fs ≤ 256) (hl : Wds w.heap.size w a l) (hU : U64 l) (hlen : l.length ≤ 8) (hok : ∀ x ∈ l, okW (stF 0 fs) x = true) :
    Calls Try.prog 41 #[.pointer (some ⟨mb, 0, none⟩), .slice a l.length c] w fun e w' => UnRes fs p l e ∧ Below w.heap.size w w' := by
  have HM := hide hM
  have hlm := hM.box.lt
  clear hM
  go_enter Try.func41, Try.ntmps41
  go_wp2
  go_loopw [12] (fun i wr => ∃ k : Nat, k ≤ l.length ∧ i = .int .i64 k ∧ Hid (∀ j, To fs (l.take k) j → p j = true) ∧ Below w.heap.size w wr) (fun i _ => l.length - (intOf i).toNat)
  case atStart => exact ⟨0, Nat.zero_le _, rfl, hide (fun j h => by obtain ⟨x, hx, _⟩ := h; simp at hx), Below.refl _ _⟩
  case round =>
    obtain ⟨k, hk, rfl, Hdone, hb⟩ := hrel
    have hsz := hb.size
    by_cases hlt : k < l.length
    · obtain ⟨b, off, rfl, hbB, hc⟩ := (hl.below hb).at hlt
      have hu := hU _ (List.getElem_mem hlt)
      have Hx := hide (List.getElem_mem hlt)
      have Hok := hide (ok_ref (hok _ (List.getElem_mem hlt)))
      have HT := hide (show l.take (k + 1) = l.take k ++ [l[k]] from List.take_succ_eq_append_getElem hlt)
      have hkI : (k : Int) < (l.length : Int) := by omega
      generalize l[k] = x at *
      have hq : b < wr.heap.size := by omega
      cases hr : unRef x
      · have Hr := hide hr
        have HE := hide (unhide Hok).1
        have HN : Hid (∀ j, To fs (l.take (k + 1)) j → p j = true) := hide (fun j h => by
          obtain ⟨y, hy, h1, h2⟩ := h
          rw [unhide HT] at hy
          rcases List.mem_append.1 hy with hy | hy
          · exact unhide Hdone j ⟨y, hy, h1, h2⟩
          · simp at hy; subst hy; rw [unhide Hr] at h1; cases h1)
        clear hr Hok
        go_wp2_with (go_at_call 53; go_must (refine (unpack_c x _ hu.1 hu.2).mono ?_); go_must (rintro e w3 ⟨he, hb3⟩; rw [unhide Hr, unhide HE] at he; subst he; have hs3 := hb3.size))
        go_roundw
        case rel => exact ⟨k + 1, by omega, by go_num, HN, (hb.trans (hb3.mono hsz)).alloc (by omega) _⟩
        case measure => simp [intOf]; omega
      · obtain ⟨j, hj⟩ := (unhide Hok).2 hr
        have hjl : j < fs.length := by have := (List.getElem?_eq_some_iff.1 hj).1; rw [stF_len] at this; exact this
        have hj' := stF_get fs 0 j hjl
        rw [Nat.zero_add] at hj'
        have Hnum : Hid (unNum x = ((tot (fs.take j) : Nat) : Int)) := by
          have := hj.symm.trans hj'
          injection this
        have hpl := place_lt hjl
        obtain ⟨y, hy, hy1, _, hy3, hy4⟩ := fit_at hF hjl
        have Hto : Hid (To fs l j) := hide ⟨x, unhide Hx, hr, hj⟩
        have Huniq : Hid (∀ j', (stF 0 fs)[j']? = some (unNum x) → j' = j) := hide (fun j' h => st_inj h hj)
        have HE := hide (unhide Hok).1
        obtain ⟨wb, cap, hvw, hwN, hwb, hcap⟩ := (unhide HM).words (by rw [mW_len hF]; omega)
        have hml := mW_len hF p
        rw [hml] at hvw hcap
        subst hvw
        have Hh : Hid (∀ W, Below w.heap.size w W → Calls Try.prog 54 #[.pointer (some ⟨mb, 0, none⟩), .int .i64 (tot (fs.take j) : Nat)] W fun e w' => e = .returned (.agg #[.int .i64 (uhL (reh (p j) y)), .bool (uhM (reh (p j) y)), .int .i64 (uhA (reh (p j) y))]) ∧ Below W.heap.size W w') := fun W hbW => by
          have hr2 := reh_ok (p j) y
          have hMW := (unhide HM).below hbW
          exact header_c mb wb (tot fs) cap _ _ W hMW.box.c0 (hMW.wcell hml.symm (mW_get hF p hy)).1 hpl h256 hr2.2.2.2.2.1 hr2.2.2.2.2.2
        have Hm : Hid (uhM (reh (p j) y) = p j) := (reh_ok (p j) y).2.2.1
        rw [unhide Hm] at Hh
        have Hr := hide hr
        clear hr Hok hj hj' hy hml
        generalize hpe : tot (fs.take j) = pl at *
        have Hpe := hide hpe
        clear hpe
        cases hpj : p j
        · rw [hpj] at Hh
          have Hpj := hide hpj
          clear hpj
          go_wp2_with (first
            | (go_at_call 53; go_must (refine (unpack_c x _ hu.1 hu.2).mono ?_); go_must (rintro e w3 ⟨he, hb3⟩; rw [unhide Hr, unhide HE, unhide Hnum] at he; subst he; have hs3 := hb3.size))
            | (go_at_call 54; go_must (refine (unhide Hh _ ((hb.trans (hb3.mono hsz)).alloc (by omega) _)).mono ?_); go_must (rintro e w4 ⟨he, hb4⟩; subst he; have hs4 := hb4.size; simp only [World.size_alloc] at hs4; have g0 := hb4.cell (p := ⟨w3.heap.size, 0, none⟩) (by simp); have g1 := hb4.cell (p := ⟨w3.heap.size, 1, none⟩) (by simp); simp [go_sem] at g0 g1; have hq4 : w3.heap.size < w4.heap.size := by omega)))
          go_ret2
          exact ⟨.inl ⟨j, hjl, unhide Hpj, unhide Hto, by rw [unhide Hpe]; rfl⟩, ((hb.trans (hb3.mono hsz)).alloc (by omega) _).trans (hb4.mono (by simp; omega))⟩
        · rw [hpj] at Hh
          have HN : Hid (∀ j, To fs (l.take (k + 1)) j → p j = true) := hide (fun j' h => by
            obtain ⟨z, hz, h1, h2⟩ := h
            rw [unhide HT] at hz
            rcases List.mem_append.1 hz with hz | hz
            · exact unhide Hdone j' ⟨z, hz, h1, h2⟩
            · simp at hz; subst hz; rw [unhide Huniq j' h2]; exact hpj)
          clear hpj
          go_wp2_with (first
            | (go_at_call 53; go_must (refine (unpack_c x _ hu.1 hu.2).mono ?_); go_must (rintro e w3 ⟨he, hb3⟩; rw [unhide Hr, unhide HE, unhide Hnum] at he; subst he; have hs3 := hb3.size))
            | (go_at_call 54; go_must (refine (unhide Hh _ ((hb.trans (hb3.mono hsz)).alloc (by omega) _)).mono ?_); go_must (rintro e w4 ⟨he, hb4⟩; subst he; have hs4 := hb4.size; simp only [World.size_alloc] at hs4)))
          go_roundw
          case rel => exact ⟨k + 1, by omega, by go_num, HN, ((hb.trans (hb3.mono hsz)).alloc (by omega) _).trans (hb4.mono (by simp; omega))⟩
          case measure => simp [intOf]; omega
    · obtain rfl : k = l.length := by omega
      have HN := Hdone
      rw [List.take_length] at HN
      go_wp2
      go_ret2
      exact ⟨.inr ⟨unhide HN, rfl⟩, hb⟩

end Go.Proofs.Ytjhndbfhiknngaa

/- Walks: take, climb. -/
namespace Go.Proofs.Ytjhndbfhiknngaa
set_option linter.unusedSimpArgs false
set_option linter.unusedVariables false
open Go.RowKit Go.Shelf
attribute [local go_sem] field51_0 field51_1

theorem below_drewN {B : Nat} {a w : World} (h : Below B a w) (n : Nat) : Below B a (w.drewN n) := ⟨h.os, h.tape, h.output, h.size, h.block⟩

/-- The places of objects. -/
def plc (fs : List (List Int)) (K : List Nat) : List Int := K.map fun i => ((tot (fs.take i) : Nat) : Int)
theorem plc_snoc (fs : List (List Int)) (K : List Nat) (i : Nat) : plc fs (K ++ [i]) = plc fs K ++ [((tot (fs.take i) : Nat) : Int)] := by simp [plc]
theorem plc_len (fs : List (List Int)) (K : List Nat) : (plc fs K).length = K.length := by simp [plc]

/-- A marker of an arena: which objects are marked, which are kept. -/
def MkA (W : World) (N mb : Nat) (vw vr : Value) (hs : List Int) (fs : List (List Int)) (rs : List Int) (room : Nat) (p : Nat → Bool) (K : List Nat) (lost : Bool) : Prop := ∃ vk, Mk W N mb vw vr vk (mW hs fs p) rs (plc fs K) room lost

theorem MkA.below {W W' : World} {N mb : Nat} {vw vr : Value} {hs : List Int} {fs : List (List Int)} {rs : List Int} {room : Nat} {p : Nat → Bool} {K : List Nat} {lost : Bool} (h : MkA W N mb vw vr hs fs rs room p K lost) (hb : Below W.heap.size W W') : MkA W' N mb vw vr hs fs rs room p K lost := by
  obtain ⟨vk, h⟩ := h
  exact ⟨vk, h.below hb⟩

/-- What take leaves. -/
def TkRes (N mb : Nat) (vw vr : Value) (hs : List Int) (fs : List (List Int)) (rs : List Int) (room : Nat) (p : Nat → Bool) (K : List Nat) (lost : Bool) (i : Nat) (W : World) : Prop :=
  (K.length = room ∧ MkA W N mb vw vr hs fs rs room (upd p i) K true) ∨ (K.length ≠ room ∧ MkA W N mb vw vr hs fs rs room (upd p i) (K ++ [i]) lost)

set_option maxRecDepth 100000 in
set_option maxHeartbeats 2000000 in
theorem take_c (hs : List Int) (fs : List (List Int)) (rs : List Int) (p : Nat → Bool) (K : List Nat) (N mb : Nat) (vw vr : Value) (room i : Nat) (lost : Bool) (w : World)
    (hM : MkA w N mb vw vr hs fs rs room p K lost) (hF : Fit hs fs) (h256 : tot fs ≤ 256) (hroom : room ≤ 64) (hK : K.length ≤ room) (hi : i < fs.length) :
    Calls Try.prog 42 #[.pointer (some ⟨mb, 0, none⟩), .int .i64 (tot (fs.take i) : Nat)] w fun e w' => (e = .returned (.tuple #[]) ∧ TkRes N mb vw vr hs fs rs room p K lost i w') ∧ Below N w w' ∧ KeepT w w' := by
  obtain ⟨i0, hi0, hz0, hz1, hz2⟩ := info_parts Try.info3
  obtain ⟨vk, hM⟩ := hM
  have hpl := place_lt hi
  have hml := mW_len hF p
  obtain ⟨wb, cap, hvw, hwN, hwb, hcap⟩ := hM.words (by rw [hml]; omega)
  rw [hml] at hvw hcap
  subst hvw
  obtain ⟨x, hx, hx1, hx2, hx3, hx4⟩ := fit_at hF hi
  have hr2 := reh_ok (p i) x
  have hmg := mW_get hF p hx
  have hNw : N ≤ w.heap.size := by omega
  have Hh := hide (header_c mb wb (tot fs) cap _ _ w hM.box.c0 (hM.wcell hml.symm hmg).1 hpl h256 hr2.2.2.2.2.1 hr2.2.2.2.2.2)
  have Hset : Hid (∀ W, Below w.heap.size w W → Calls Try.prog 40 #[.pointer (some ⟨mb, 0, none⟩), .int .i64 (tot (fs.take i) : Nat), .agg #[.int .i64 (uhL (reh (p i) x)), .bool (uhM (reh (p i) x)), .int .i64 (uhA (reh (p i) x))], .bool true] W fun e w' => e = .returned (.tuple #[]) ∧ Mk w' N mb (.slice (some ⟨wb, 0, none⟩) (tot fs) cap) vr vk (mW hs fs (upd p i)) rs (plc fs K) room lost ∧ Below N W w' ∧ KeepT W w') := fun W hbW => by
    have hMW := hM.below hbW
    refine (set_w mb wb (tot fs) cap _ _ _ _ _ true W hMW.box.c0 (hMW.wcell hml.symm hmg).1 (hMW.wcell hml.symm hmg).2 hpl h256).mono ?_
    rintro e w' ⟨rfl, w1, hb1, rfl⟩
    refine ⟨rfl, ?_, ?_, (KeepT.below hb1).setCell (ty_row (by have := (hMW.below hb1).wo; rw [hml] at this; exact this)) (.inl rfl) _⟩
    · have := (hMW.below hb1).setW hml.symm (tot (fs.take i)) (headW (uhL (reh (p i) x)) true (uhA (reh (p i) x)))
      rw [show headW (uhL (reh (p i) x)) true (uhA (reh (p i) x)) = reh true x from by rw [hr2.2.1, hr2.2.2.2.1]; rfl, mW_set hF p hx] at this
      rw [hr2.2.1, hr2.2.2.2.1]
      exact this
    · exact (hb1.mono (by have := hbW.size; omega)).setCell (p := ⟨wb, tot (fs.take i), none⟩) hwN _
  have Hpl : Hid (plc fs (K ++ [i]) = plc fs K ++ [((tot (fs.take i) : Nat) : Int)]) := plc_snoc fs K i
  have Hkl : Hid ((plc fs K).length = K.length) := plc_len fs K
  clear hM hmg hml hr2 hx hx1 hx2 hx3 hx4
  generalize uhL (reh (p i) x) = L at *
  generalize uhM (reh (p i) x) = M at *
  generalize uhA (reh (p i) x) = A at *
  generalize hpp : tot (fs.take i) = pl at *
  clear hpp
  generalize hkk : plc fs K = PK at *
  have Hkk := hide hkk
  clear hkk
  go_enter Try.func42, Try.ntmps42
  go_wp2_with fail
  refine (unhide Hh).mono ?_
  rintro e w2 ⟨rfl, hb2⟩
  go_wp2_with fail
  refine (unhide Hset w2 hb2).mono ?_
  rintro e w3 ⟨rfl, hM3, hb3, hk3⟩
  have hs2 := hb2.size
  have hs3 := hb3.size
  have hbN : Below N w w3 := (hb2.mono hNw).trans hb3
  have HkN := hide ((KeepT.below hb2).trans hk3)
  clear hk3
  have q2 := hM3.box.c2
  have q3 := hM3.box.c3
  have q4 := hM3.box.c4
  have z3 := hM3.box.fr 3
  have z4 := hM3.box.fr 4
  have hko := hM3.ko
  have hlm := hM3.box.lt
  obtain ⟨ka, kc, rfl⟩ := ownsRow_slice hko
  rw [unhide Hkl] at q3 hko
  have HM3 := hide hM3
  clear hM3 Hh Hset hb2 hb3
  by_cases hfull : K.length = room
  · have d0 : ((K.length : Int) == (room : Int)) = true := by simp; omega
    have Hfull := hide hfull
    clear hfull
    go_wp2
    go_quiet (fail)
    have hM4 := (unhide HM3).below (below_drewN (Below.refl _ _) nq)
    have hb4 := below_drewN hbN nq
    have Hk4 := hide ((unhide HkN).trans (KeepT.below (below_drewN (Below.refl _ w3) nq)))
    clear q2 q3 q4 z3 z4 hko hlm HM3 hbN hs3 d0 HkN
    generalize w3.drewN nq = w4 at *
    have q4 := hM4.box.c4
    have z4 := hM4.box.fr 4
    have hlm := hM4.box.lt
    have hmN := hM4.lo
    have HM4 := hide hM4
    clear hM4
    go_wp2
    refine bodyPost_ret (v := .tuple #[]) (results_none rfl _ _ _) rfl ⟨⟨rfl, .inl ⟨unhide Hfull, .slice ka PK.length kc, ?_⟩⟩, hb4.setCell (p := ⟨mb, 4, none⟩) hmN _, (unhide Hk4).setCell (unhide HM4).box.ty (.inr (.inr rfl)) _⟩
    rw [unhide Hkk]
    exact (unhide HM4).setL true
  · have d0 : ((K.length : Int) == (room : Int)) = false := by simp; omega
    have Hfull := hide hfull
    have hKr : K.length < room := by omega
    clear hfull
    go_wp2
    go_quiet (fail)
    have hM4 := (unhide HM3).below (below_drewN (Below.refl _ _) nq)
    have hb4 := below_drewN hbN nq
    have Hk4 := hide ((unhide HkN).trans (KeepT.below (below_drewN (Below.refl _ w3) nq)))
    clear q2 q3 q4 z3 z4 hko hlm HM3 hbN hs3 d0 HkN
    generalize w3.drewN nq = w4 at *
    have q3 := hM4.box.c3
    have z3 := hM4.box.fr 3
    have hlm := hM4.box.lt
    have hmN := hM4.lo
    have hko := hM4.ko
    rw [unhide Hkl] at q3 hko
    have HM4 := hide hM4
    clear hM4
    go_wp2_with (at_builtin; go_must (refine wpList_append_own_at _ rfl _ _ 40 rfl N 3 i0 _ 1 8 Try.underlying40 hi0 hz0 hz1 hz2 rfl (by decide) _ _ _ rfl (hko.alloc _) ⟨w4.heap.size, 0, none⟩ 1 1 [.int .i64 (pl : Int)] rfl rfl (cell_one_at _ _ _ _ (by simp)) (by simp [Value.oneCell']) (by simp only [maxLen]; omega) (by omega) (by simp; omega) ?_); go_must (intro v' w5 hrow hg5 _ hat; obtain ⟨g5, c5, hv5⟩ := ownsRow_succ hrow; subst hv5; have hpush := ((unhide HM4).alloc (.cells #[.int .i64 (pl : Int)] 3)).push (x := (pl : Int)) (by rw [unhide Hkl]; exact hrow) (by rw [unhide Hkl]; exact hg5) (by rw [unhide Hkl]; exact hat); have r3 := hpush.1.c3; have t3 := hpush.1.fr 3; have Hpush := hide hpush.2; have Hk5 := hide (((unhide Hk4).alloc (.cells #[.int .i64 (pl : Int)] 3)).grown (hko.alloc _) hg5 (.inr (.inl rfl))); have Hty := hide hpush.1.ty; clear hpush))
    refine bodyPost_end (v := .tuple #[]) (results_none rfl _ _ _) rfl ⟨⟨rfl, .inr ⟨unhide Hfull, .slice (some ⟨g5, 0, none⟩) (K.length + 1) c5, ?_⟩⟩, ?_, (unhide Hk5).setCell (unhide Hty) (.inr (.inr rfl)) _⟩
    · rw [unhide Hpl]
      exact unhide Hpush
    · exact ((hb4.alloc (by omega) _).grown hg5 (by simp; omega) (fun q e => (hko.lt q e).1)).setCell (p := ⟨mb, 3, none⟩) hmN _

end Go.Proofs.Ytjhndbfhiknngaa

/- Walks: join. -/
namespace Go.Proofs.Ytjhndbfhiknngaa
set_option linter.unusedSimpArgs false
set_option linter.unusedVariables false
open Go.RowKit Go.Shelf

theorem Try.info57 : (Try.prog.info? 57).map (fun i => (i.zero, i.size, i.bytes)) = some (some (.agg #[.int .i64 0, .int .i64 0]), 2, 16) := by kernel_rfl

/-- The cells of blocks. -/
def cellsB (l : List (Nat × Nat)) : List Value := l.flatMap fun x => [.int .i64 (x.1 : Nat), .int .i64 (x.2 : Nat)]

theorem cellsB_snoc (l : List (Nat × Nat)) (a n : Nat) : cellsB (l ++ [(a, n)]) = cellsB l ++ [.int .i64 (a : Nat), .int .i64 (n : Nat)] := by simp [cellsB]
theorem cellsB_len : ∀ (l : List (Nat × Nat)), (cellsB l).length = l.length * 2
  | [] => rfl
  | x :: l => by have := cellsB_len l; simp only [cellsB, List.flatMap_cons, List.length_append, List.length_cons, List.length_nil] at *; omega

theorem cellsB_get : ∀ (l : List (Nat × Nat)) (k : Nat) (x : Nat × Nat), l[k]? = some x → (cellsB l)[k * 2]? = some (.int .i64 (x.1 : Nat)) ∧ (cellsB l)[k * 2 + 1]? = some (.int .i64 (x.2 : Nat))
  | [], _, _, h => by simp at h
  | x :: l, 0, v, h => by simp at h; subst h; simp [cellsB]
  | x :: l, k + 1, v, h => by
    have := cellsB_get l k v (by simpa using h)
    have e1 : (k + 1) * 2 = k * 2 + 1 + 1 := by omega
    have e2 : (k + 1) * 2 + 1 = k * 2 + 1 + 1 + 1 := by omega
    rw [e1]
    simp only [cellsB, List.flatMap_cons, List.cons_append, List.nil_append, List.getElem?_cons_succ]
    exact this

theorem cellsB_last (l : List (Nat × Nat)) (a n m : Nat) : (cellsB (l ++ [(a, n)])).set (l.length * 2 + 1) (.int .i64 (m : Nat)) = cellsB (l ++ [(a, m)]) := by
  rw [cellsB_snoc, cellsB_snoc, List.set_append_right _ _ (by rw [cellsB_len]; omega), cellsB_len, show l.length * 2 + 1 - l.length * 2 = 1 by omega]
  rfl

/-- What join leaves. -/
def JnRes (base : Nat) (l : List (Nat × Nat)) (b : Nat × Nat) (v : Value) (w : World) (e : Ending) (W : World) : Prop :=
  ∃ v', e = .returned v' ∧ W.ownsRow base 57 2 v' (joinB l b).length (cellsB (joinB l b)) ∧ w.grownBy W v.ownBlock ∧ (v'.ownBlock = v.ownBlock ∨ ∃ k, v'.ownBlock = some k ∧ w.heap.size ≤ k)

theorem grown_alloc {w W : World} {row : Option Nat} (o : Obj) (h : (w.alloc o).grownBy W row) (hn : row = none ∨ ∃ k, row = some k ∧ k < w.heap.size) : w.grownBy W row :=
  ⟨h.os, h.tape, h.output, by have := h.size; simp at this; omega, fun k hk hne => by rw [h.block k (by simp; omega) hne]; exact Below.heap_alloc _ _ _ hk⟩

theorem row_none {w : World} {base : Nat} {e : TypeId} {size : Nat} {v : Value} {n : Nat} {xs : List Value} (h : w.ownsRow base e size v n xs) : v.ownBlock = none ∨ ∃ k, v.ownBlock = some k ∧ k < w.heap.size := by
  cases hv : v.ownBlock with
  | none => exact .inl rfl
  | some k => exact .inr ⟨k, rfl, (h.lt k hv).2⟩

set_option maxRecDepth 100000 in
set_option maxHeartbeats 2000000 in
theorem join_c (v : Value) (base : Nat) (l : List (Nat × Nat)) (p m : Nat) (w : World) (h : w.ownsRow base 57 2 v l.length (cellsB l)) (hl : ∀ x ∈ l, x.1 + x.2 ≤ 256) (hn : l.length ≤ 256) (hp : p ≤ 256) (hm : m ≤ 256) (hbase : base ≤ w.heap.size) :
    Calls Try.prog 31 #[v, .agg #[.int .i64 (p : Nat), .int .i64 (m : Nat)]] w fun e w' => JnRes base l (p, m) v w e w' := by
  obtain ⟨i0, hi0, hz0, hz1, hz2⟩ := info_parts Try.info57
  rcases List.eq_nil_or_concat l with rfl | ⟨l0, ⟨a, n⟩, hl0⟩
  · obtain ⟨va, vc, hv⟩ := ownsRow_slice h
    simp only [List.length_nil] at hv h
    subst hv
    have H := hide h
    have h1 := (h.alloc (.cells #[.int .i64 (p : Nat), .int .i64 (m : Nat)] 57)).drew
    have d0 : decide ((0 : Int) > 0) = false := by decide
    have d0' : decide ((0 : Int) < 0) = false := by decide
    go_enter Try.func31, Try.ntmps31
    go_wp2
    go_quiet (fail)
    have hb2 : Below w.heap.size w ((w.alloc (.cells #[.int .i64 (p : Nat), .int .i64 (m : Nat)] 57)).drewN nq) := below_drewN ((Below.refl _ _).alloc (Nat.le_refl _) _) nq
    have c0 : ((w.alloc (.cells #[.int .i64 (p : Nat), .int .i64 (m : Nat)] 57)).drewN nq).cell? ⟨w.heap.size, 0, none⟩ = some (.int .i64 (p : Nat)) := by show (w.alloc _).cell? _ = _; simp [go_sem]
    have c1 : ((w.alloc (.cells #[.int .i64 (p : Nat), .int .i64 (m : Nat)] 57)).drewN nq).cell? ⟨w.heap.size, 1, none⟩ = some (.int .i64 (m : Nat)) := by show (w.alloc _).cell? _ = _; simp [go_sem]
    have hs2 : w.heap.size < ((w.alloc (.cells #[.int .i64 (p : Nat), .int .i64 (m : Nat)] 57)).drewN nq).heap.size := by show w.heap.size < (w.heap.push _).size; simp
    clear h1
    generalize (w.alloc (.cells #[.int .i64 (p : Nat), .int .i64 (m : Nat)] 57)).drewN nq = W2 at *
    have h2 := ownsRow_below (unhide H) hb2
    go_wp2_with (at_builtin; go_must (refine wpList_append_own_at _ rfl _ _ 28 rfl base 57 i0 _ 2 16 Try.underlying28 hi0 hz0 hz1 hz2 rfl (by decide) _ _ _ rfl (h2.alloc _) ⟨W2.heap.size, 0, none⟩ 1 1 [.int .i64 (p : Nat), .int .i64 (m : Nat)] rfl rfl (cell_two_at _ _ _ _ _ (by simp)) (by simp [Value.oneCell']) (by simp only [maxLen]; omega) (by omega) (by simp; omega) ?_); go_must (intro v' w5 hrow hg5 _ hat))
    go_ret
    refine ⟨v', rfl, ?_, ?_, ?_⟩
    · exact hrow
    · have := hg5.size
      simp at this
      exact ⟨hg5.os.trans hb2.os, hg5.tape.trans hb2.tape, hg5.output.trans hb2.output, by omega, fun k hk hne => by rw [hg5.block k (by simp; omega) hne, Below.heap_alloc _ _ _ (by omega), hb2.block k hk]⟩
    · rcases hat with e | e
      · exact .inl e
      · exact .inr ⟨_, e, by simp; omega⟩
  · rw [List.concat_eq_append] at hl0
    subst hl0
    have hK : (l0 ++ [(a, n)]).length = l0.length + 1 := by simp
    rw [hK] at h hn
    obtain ⟨g, cap, hv⟩ := ownsRow_succ h
    subst hv
    have hcap : l0.length + 1 ≤ cap := by
      rcases h.2 with ⟨e, _⟩ | ⟨g', cap', cur, e, _, _, h3, _⟩
      · cases e
      · injection e with _ _ e; omega
    have hg := (h.lt g rfl).2
    have hxy := cellsB_get (l0 ++ [(a, n)]) l0.length (a, n) (by simp)
    have x0 : w.cell? ⟨g, l0.length * 2, none⟩ = some (.int .i64 (a : Nat)) := by rw [h.cellAt _ (by omega)]; exact hxy.1
    have x1 : w.cell? ⟨g, l0.length * 2 + 1, none⟩ = some (.int .i64 (n : Nat)) := by rw [h.cellAt _ (by omega)]; exact hxy.2
    have xf := h.frozenAt (l0.length * 2 + 1)
    have han := hl (a, n) (by simp)
    simp only at han
    have H := hide h
    obtain ⟨W1, hW1⟩ : ∃ W1, w.alloc (.cells #[.int .i64 (p : Nat), .int .i64 (m : Nat)] 57) = W1 := ⟨_, rfl⟩
    have hb1 : Below w.heap.size w W1 := by rw [← hW1]; exact (Below.refl _ _).alloc (Nat.le_refl _) _
    have hs1 : w.heap.size < W1.heap.size := by rw [← hW1]; simp
    have c0 : W1.cell? ⟨w.heap.size, 0, none⟩ = some (.int .i64 (p : Nat)) := by rw [← hW1]; simp [go_sem]
    have c1 : W1.cell? ⟨w.heap.size, 1, none⟩ = some (.int .i64 (m : Nat)) := by rw [← hW1]; simp [go_sem]
    replace x0 := (hb1.cell (p := ⟨g, l0.length * 2, none⟩) hg).trans x0
    replace x1 := (hb1.cell (p := ⟨g, l0.length * 2 + 1, none⟩) hg).trans x1
    replace xf := (hb1.frozen (p := ⟨g, l0.length * 2 + 1, none⟩) hg).trans xf
    have hg1 : g < W1.heap.size := by omega
    have d0 : decide (((l0.length + 1 : Nat) : Int) > 0) = true := decide_eq_true (by omega)
    have d0' : decide ((0 : Int) < ((l0.length + 1 : Nat) : Int)) = true := decide_eq_true (by omega)
    have e1 : ((l0.length + 1 : Nat) : Int) - 1 = (l0.length : Int) := by omega
    have w1 : IntKind.i64.wrap (((l0.length + 1 : Nat) : Int) - 1) = (l0.length : Int) := by rw [IntKind.wrap_i64]; omega
    have w2 : IntKind.i64.wrap ((a : Int) + (n : Int)) = (a : Int) + (n : Int) := by rw [IntKind.wrap_i64]; omega
    have hI : (l0.length : Int) < ((l0.length + 1 : Nat) : Int) := by omega
    clear hxy h hl hK
    by_cases hc : a + n = p
    · have HJ := hide (joinB_yes (l := l0) (b := (p, m)) hc)
      have d1 : ((a : Int) + (n : Int) == (p : Int)) = true := by simp; omega
      go_enter Try.func31, Try.ntmps31
      go_wp2
      go_quiet (fail)
      have hb2 := below_drewN hb1 nq
      have y0 : (W1.drewN nq).cell? ⟨g, l0.length * 2, none⟩ = some (.int .i64 (a : Nat)) := x0
      have y1 : (W1.drewN nq).cell? ⟨g, l0.length * 2 + 1, none⟩ = some (.int .i64 (n : Nat)) := x1
      have yf : (W1.drewN nq).frozen? ⟨g, l0.length * 2 + 1, none⟩ = false := xf
      have b0 : (W1.drewN nq).cell? ⟨w.heap.size, 0, none⟩ = some (.int .i64 (p : Nat)) := c0
      have b1 : (W1.drewN nq).cell? ⟨w.heap.size, 1, none⟩ = some (.int .i64 (m : Nat)) := c1
      have hs2 : w.heap.size < (W1.drewN nq).heap.size := hs1
      have hg2 : g < (W1.drewN nq).heap.size := hg1
      clear x0 x1 xf c0 c1 hb1 hs1 hg1 hW1
      generalize W1.drewN nq = W2 at *
      have w3 : IntKind.i64.wrap ((n : Int) + (m : Int)) = (n : Int) + (m : Int) := by rw [IntKind.wrap_i64]; omega
      go_wp2
      go_region
      all_goals
        go_wp2
        go_ret
        have hr2 := (ownsRow_below (unhide H) hb2).drew
        have hst := hr2.stored (l0.length * 2 + 1) (.int .i64 ((n : Int) + (m : Int)))
        refine ⟨.slice (some ⟨g, 0, none⟩) (l0.length + 1) cap, rfl, ?_, ?_, .inl rfl⟩
        · rw [unhide HJ, List.length_append, List.length_singleton]
          have := hst.1
          rw [← Int.natCast_add, cellsB_last] at this
          rw [← Int.natCast_add]
          exact this
        · have := hst.2
          exact ⟨this.os.trans hb2.os, this.tape.trans hb2.tape, this.output.trans hb2.output, by have := this.size; exact Nat.le_trans (Nat.le_of_lt hs2) this, fun k hk hne => (this.block k (Nat.lt_trans hk hs2) hne).trans (hb2.block k hk)⟩
    · have HJ := hide (joinB_no (l := l0) (b := (p, m)) hc)
      have d1 : ((a : Int) + (n : Int) == (p : Int)) = false := by simp; omega
      go_enter Try.func31, Try.ntmps31
      go_wp2
      go_quiet (fail)
      have hb2 := below_drewN hb1 nq
      have y0 : (W1.drewN nq).cell? ⟨g, l0.length * 2, none⟩ = some (.int .i64 (a : Nat)) := x0
      have y1 : (W1.drewN nq).cell? ⟨g, l0.length * 2 + 1, none⟩ = some (.int .i64 (n : Nat)) := x1
      have yf : (W1.drewN nq).frozen? ⟨g, l0.length * 2 + 1, none⟩ = false := xf
      have b0 : (W1.drewN nq).cell? ⟨w.heap.size, 0, none⟩ = some (.int .i64 (p : Nat)) := c0
      have b1 : (W1.drewN nq).cell? ⟨w.heap.size, 1, none⟩ = some (.int .i64 (m : Nat)) := c1
      have hs2 : w.heap.size < (W1.drewN nq).heap.size := hs1
      have hg2 : g < (W1.drewN nq).heap.size := hg1
      clear x0 x1 xf c0 c1 hb1 hs1 hg1 hW1
      generalize W1.drewN nq = W2 at *
      have h2 := ownsRow_below (unhide H) hb2
      go_wp2_with (at_builtin; go_must (refine wpList_append_own_at _ rfl _ _ 28 rfl base 57 i0 _ 2 16 Try.underlying28 hi0 hz0 hz1 hz2 rfl (by decide) _ _ _ rfl (h2.alloc _) ⟨W2.heap.size, 0, none⟩ 1 1 [.int .i64 (p : Nat), .int .i64 (m : Nat)] rfl rfl (cell_two_at _ _ _ _ _ (by simp)) (by simp [Value.oneCell']) (by simp only [maxLen]; omega) (by omega) (by simp; omega) ?_); go_must (intro v' w5 hrow hg5 _ hat))
      go_ret
      refine ⟨v', rfl, ?_, ?_, ?_⟩
      · rw [unhide HJ, show l0 ++ [(a, n), (p, m)] = (l0 ++ [(a, n)]) ++ [(p, m)] by simp, cellsB_snoc, List.length_append, List.length_append]
        exact hrow
      · have := hg5.size
        simp at this
        exact ⟨hg5.os.trans hb2.os, hg5.tape.trans hb2.tape, hg5.output.trans hb2.output, by omega, fun k hk hne => by rw [hg5.block k (by simp; omega) hne, Below.heap_alloc _ _ _ (by omega), hb2.block k hk]⟩
      · rcases hat with e | e
        · exact .inl e
        · exact .inr ⟨_, e, by simp; omega⟩

end Go.Proofs.Ytjhndbfhiknngaa

/- Walks: each. -/
namespace Go.Proofs.Ytjhndbfhiknngaa
set_option linter.unusedSimpArgs false
set_option linter.unusedVariables false
open Go.RowKit Go.Shelf
attribute [local go_sem] field51_0 field51_1

/-- Headers in boxes are as they were. -/
def Keep51 (W W' : World) : Prop := ∀ (k : Nat) (cs : Array Value), W.heap[k]? = some (.cells cs 51) → W'.heap[k]? = some (.cells cs 51)

theorem KeepT.k51 {W W' : World} (h : KeepT W W') : Keep51 W W' := fun k cs hk => h k cs 51 hk (by decide) (by decide) (by decide)

/-- What each may rely on at an object. -/
def EachAt (fid : Nat) (c0 : Value) (a : Option Addr) (fs : List (List Int)) (I : Nat → World → Prop) (k : Nat) (l : Nat) (W : World) : Prop :=
  ∃ wb off x, a = some ⟨wb, off, none⟩ ∧ W.cell? ⟨wb, off + tot (fs.take k), none⟩ = some (.int .u64 x) ∧ 0 ≤ x ∧ x < 18446744073709551616 ∧ unheadOk x = true ∧ wlen x = l ∧
    ∀ W', Below W.heap.size W W' → Calls Try.prog fid #[.int .i64 (tot (fs.take k) : Nat), .agg #[.int .i64 l, .bool (uhM x), .int .i64 (uhA x)], c0] W' fun e W'' => e = .returned (.tuple #[]) ∧ I (k + 1) W'' ∧ Keep51 W' W'' ∧ W'.heap.size ≤ W''.heap.size

set_option maxRecDepth 100000 in
set_option maxHeartbeats 2000000 in
theorem each39_c (c0 : Value) (a : Option Addr) (cap : Nat) (fs : List (List Int)) (I : Nat → World → Prop) (w : World) (h256 : tot fs ≤ 256) (hI : I 0 w)
    (hat : ∀ (k : Nat) (hk : k < fs.length) W, I k W → EachAt 39 c0 a fs I k fs[k].length W) :
    Calls Try.prog 29 #[.slice a (tot fs : Nat) cap, .func (.func 39) #[] #[c0]] w fun e w' => e = .returned (.tuple #[]) ∧ I fs.length w' := by
  have HI := hide hI
  have Hat := hide hat
  clear hI hat
  go_enter Try.func29, Try.ntmps29
  go_wp2
  go_loopw [4] (fun i wr => ∃ k : Nat, k ≤ fs.length ∧ i = .int .i64 (tot (fs.take k) : Nat) ∧ Hid (I k wr)) (fun i _ => tot fs - (intOf i).toNat)
  case atStart => exact ⟨0, Nat.zero_le _, rfl, HI⟩
  case round =>
    clear HI
    obtain ⟨k, hk, rfl, HI⟩ := hrel
    by_cases hlt : k < fs.length
    · obtain ⟨wb, off, x, rfl, hx, hx1, hx2, hx3, hx4, hcall⟩ := unhide Hat k hlt wr (unhide HI)
      have hpl := place_lt hlt
      have hts := tot_take_succ hlt
      have htl := tot_take_le fs (k + 1)
      have HL := hide (uhL_wlen hx3)
      rw [hx4] at HL
      have HE := hide (uhE_ok hx3)
      have Hcall := hide hcall
      have HN : Hid (tot (fs.take (k + 1)) = tot (fs.take k) + 1 + fs[k].length) := by show _ = _; omega
      have hwl : wb < wr.heap.size := World.block_lt_of_cell? wr _ hx
      have hle : tot (fs.take k) + 1 + fs[k].length ≤ 256 := by omega
      clear hcall hx3 hx4 hts htl HI
      generalize fs[k].length = l at *
      generalize tot (fs.take k) = q at *
      generalize tot fs = n at *
      have hqI : (q : Int) < (n : Int) := by omega
      go_wp2_with fail
      refine (unhead_c x _ hx1 hx2).mono ?_
      rintro e w2 ⟨he, hb2⟩
      rw [unhide HL, unhide HE] at he
      subst he
      have hs2 := hb2.size
      have Hc2 := hide (unhide Hcall (w2.alloc (.cells #[.int .i64 (l : Nat), .bool (uhM x), .int .i64 (uhA x)] 51)) (hb2.alloc hs2 _))
      clear Hcall
      go_wp2_with fail
      refine (unhide Hc2).mono ?_
      rintro e w3 ⟨he, hI3, hk3, hs3⟩
      subst he
      have h51 := hk3 w2.heap.size #[.int .i64 (l : Nat), .bool (uhM x), .int .i64 (uhA x)] (heap_alloc_new _ _)
      have g0 : w3.cell? ⟨w2.heap.size, 0, none⟩ = some (.int .i64 (l : Nat)) := by rw [cell_of_row w3 w2.heap.size 0 _ 51 (0, 0) h51]; rfl
      have hl3 : w2.heap.size < w3.heap.size := by simp only [World.size_alloc] at hs3; omega
      have HI3 := hide hI3
      clear h51 hk3 hI3 Hc2
      go_wp2
      go_roundw
      case rel => exact ⟨k + 1, by omega, by rw [unhide HN]; go_num, HI3⟩
      case measure => simp [intOf]; omega
    · obtain rfl : k = fs.length := by omega
      have e0 : tot (fs.take fs.length) = tot fs := by rw [List.take_length]
      rw [e0]
      generalize tot fs = n at *
      go_wp2
      exact bodyPost_end (v := .tuple #[]) (results_none rfl _ _ _) rfl ⟨rfl, unhide HI⟩

set_option maxRecDepth 100000 in
set_option maxHeartbeats 2000000 in
theorem each56_c (c0 : Value) (a : Option Addr) (cap : Nat) (fs : List (List Int)) (I : Nat → World → Prop) (w : World) (h256 : tot fs ≤ 256) (hI : I 0 w)
    (hat : ∀ (k : Nat) (hk : k < fs.length) W, I k W → EachAt 56 c0 a fs I k fs[k].length W) :
    Calls Try.prog 29 #[.slice a (tot fs : Nat) cap, .func (.func 56) #[] #[c0]] w fun e w' => e = .returned (.tuple #[]) ∧ I fs.length w' := by
  have HI := hide hI
  have Hat := hide hat
  clear hI hat
  go_enter Try.func29, Try.ntmps29
  go_wp2
  go_loopw [4] (fun i wr => ∃ k : Nat, k ≤ fs.length ∧ i = .int .i64 (tot (fs.take k) : Nat) ∧ Hid (I k wr)) (fun i _ => tot fs - (intOf i).toNat)
  case atStart => exact ⟨0, Nat.zero_le _, rfl, HI⟩
  case round =>
    clear HI
    obtain ⟨k, hk, rfl, HI⟩ := hrel
    by_cases hlt : k < fs.length
    · obtain ⟨wb, off, x, rfl, hx, hx1, hx2, hx3, hx4, hcall⟩ := unhide Hat k hlt wr (unhide HI)
      have hpl := place_lt hlt
      have hts := tot_take_succ hlt
      have htl := tot_take_le fs (k + 1)
      have HL := hide (uhL_wlen hx3)
      rw [hx4] at HL
      have HE := hide (uhE_ok hx3)
      have Hcall := hide hcall
      have HN : Hid (tot (fs.take (k + 1)) = tot (fs.take k) + 1 + fs[k].length) := by show _ = _; omega
      have hwl : wb < wr.heap.size := World.block_lt_of_cell? wr _ hx
      have hle : tot (fs.take k) + 1 + fs[k].length ≤ 256 := by omega
      clear hcall hx3 hx4 hts htl HI
      generalize fs[k].length = l at *
      generalize tot (fs.take k) = q at *
      generalize tot fs = n at *
      have hqI : (q : Int) < (n : Int) := by omega
      go_wp2_with fail
      refine (unhead_c x _ hx1 hx2).mono ?_
      rintro e w2 ⟨he, hb2⟩
      rw [unhide HL, unhide HE] at he
      subst he
      have hs2 := hb2.size
      have Hc2 := hide (unhide Hcall (w2.alloc (.cells #[.int .i64 (l : Nat), .bool (uhM x), .int .i64 (uhA x)] 51)) (hb2.alloc hs2 _))
      clear Hcall
      go_wp2_with fail
      refine (unhide Hc2).mono ?_
      rintro e w3 ⟨he, hI3, hk3, hs3⟩
      subst he
      have h51 := hk3 w2.heap.size #[.int .i64 (l : Nat), .bool (uhM x), .int .i64 (uhA x)] (heap_alloc_new _ _)
      have g0 : w3.cell? ⟨w2.heap.size, 0, none⟩ = some (.int .i64 (l : Nat)) := by rw [cell_of_row w3 w2.heap.size 0 _ 51 (0, 0) h51]; rfl
      have hl3 : w2.heap.size < w3.heap.size := by simp only [World.size_alloc] at hs3; omega
      have HI3 := hide hI3
      clear h51 hk3 hI3 Hc2
      go_wp2
      go_roundw
      case rel => exact ⟨k + 1, by omega, by rw [unhide HN]; go_num, HI3⟩
      case measure => simp [intOf]; omega
    · obtain rfl : k = fs.length := by omega
      have e0 : tot (fs.take fs.length) = tot fs := by rw [List.take_length]
      rw [e0]
      generalize tot fs = n at *
      go_wp2
      exact bodyPost_end (v := .tuple #[]) (results_none rfl _ _ _) rfl ⟨rfl, unhide HI⟩

set_option maxRecDepth 100000 in
set_option maxHeartbeats 2000000 in
theorem each30_c (c0 : Value) (a : Option Addr) (cap : Nat) (fs : List (List Int)) (I : Nat → World → Prop) (w : World) (h256 : tot fs ≤ 256) (hI : I 0 w)
    (hat : ∀ (k : Nat) (hk : k < fs.length) W, I k W → EachAt 30 c0 a fs I k fs[k].length W) :
    Calls Try.prog 29 #[.slice a (tot fs : Nat) cap, .func (.func 30) #[] #[c0]] w fun e w' => e = .returned (.tuple #[]) ∧ I fs.length w' := by
  have HI := hide hI
  have Hat := hide hat
  clear hI hat
  go_enter Try.func29, Try.ntmps29
  go_wp2
  go_loopw [4] (fun i wr => ∃ k : Nat, k ≤ fs.length ∧ i = .int .i64 (tot (fs.take k) : Nat) ∧ Hid (I k wr)) (fun i _ => tot fs - (intOf i).toNat)
  case atStart => exact ⟨0, Nat.zero_le _, rfl, HI⟩
  case round =>
    clear HI
    obtain ⟨k, hk, rfl, HI⟩ := hrel
    by_cases hlt : k < fs.length
    · obtain ⟨wb, off, x, rfl, hx, hx1, hx2, hx3, hx4, hcall⟩ := unhide Hat k hlt wr (unhide HI)
      have hpl := place_lt hlt
      have hts := tot_take_succ hlt
      have htl := tot_take_le fs (k + 1)
      have HL := hide (uhL_wlen hx3)
      rw [hx4] at HL
      have HE := hide (uhE_ok hx3)
      have Hcall := hide hcall
      have HN : Hid (tot (fs.take (k + 1)) = tot (fs.take k) + 1 + fs[k].length) := by show _ = _; omega
      have hwl : wb < wr.heap.size := World.block_lt_of_cell? wr _ hx
      have hle : tot (fs.take k) + 1 + fs[k].length ≤ 256 := by omega
      clear hcall hx3 hx4 hts htl HI
      generalize fs[k].length = l at *
      generalize tot (fs.take k) = q at *
      generalize tot fs = n at *
      have hqI : (q : Int) < (n : Int) := by omega
      go_wp2_with fail
      refine (unhead_c x _ hx1 hx2).mono ?_
      rintro e w2 ⟨he, hb2⟩
      rw [unhide HL, unhide HE] at he
      subst he
      have hs2 := hb2.size
      have Hc2 := hide (unhide Hcall (w2.alloc (.cells #[.int .i64 (l : Nat), .bool (uhM x), .int .i64 (uhA x)] 51)) (hb2.alloc hs2 _))
      clear Hcall
      go_wp2_with fail
      refine (unhide Hc2).mono ?_
      rintro e w3 ⟨he, hI3, hk3, hs3⟩
      subst he
      have h51 := hk3 w2.heap.size #[.int .i64 (l : Nat), .bool (uhM x), .int .i64 (uhA x)] (heap_alloc_new _ _)
      have g0 : w3.cell? ⟨w2.heap.size, 0, none⟩ = some (.int .i64 (l : Nat)) := by rw [cell_of_row w3 w2.heap.size 0 _ 51 (0, 0) h51]; rfl
      have hl3 : w2.heap.size < w3.heap.size := by simp only [World.size_alloc] at hs3; omega
      have HI3 := hide hI3
      clear h51 hk3 hI3 Hc2
      go_wp2
      go_roundw
      case rel => exact ⟨k + 1, by omega, by rw [unhide HN]; go_num, HI3⟩
      case measure => simp [intOf]; omega
    · obtain rfl : k = fs.length := by omega
      have e0 : tot (fs.take fs.length) = tot fs := by rw [List.take_length]
      rw [e0]
      generalize tot fs = n at *
      go_wp2
      exact bodyPost_end (v := .tuple #[]) (results_none rfl _ _ _) rfl ⟨rfl, unhide HI⟩

end Go.Proofs.Ytjhndbfhiknngaa

/- Walks: newMarker's closure; all marks away. -/
namespace Go.Proofs.Ytjhndbfhiknngaa
set_option linter.unusedSimpArgs false
set_option linter.unusedVariables false
open Go.RowKit Go.Shelf
attribute [local go_sem] field51_0 field51_1

/-- The arena of which the first k objects are without marks. -/
def fW (hs : List Int) (fs : List (List Int)) (k : Nat) : List Int := joinW (mkF hs k) fs

theorem fW_len {hs : List Int} {fs : List (List Int)} (h : Fit hs fs) (k : Nat) : (fW hs fs k).length = tot fs := by
  rw [fW, joinW_len _ _ (by rw [mkF_len]; exact h.len)]
theorem fW_get {hs : List Int} {fs : List (List Int)} (h : Fit hs fs) {i : Nat} {x : Int} (hx : hs[i]? = some x) : (fW hs fs i)[tot (fs.take i)]? = some x := by
  have hi : i < fs.length := by have := (List.getElem?_eq_some_iff.1 hx).1; have := h.len; omega
  rw [fW, joinW_get _ _ _ (by rw [mkF_len]; exact h.len) hi, mkF_get, hx]
  simp
theorem fW_set {hs : List Int} {fs : List (List Int)} (h : Fit hs fs) {i : Nat} {x : Int} (hx : hs[i]? = some x) : (fW hs fs i).set (tot (fs.take i)) (reh false x) = fW hs fs (i + 1) := by
  have hi : i < fs.length := by have := (List.getElem?_eq_some_iff.1 hx).1; have := h.len; omega
  rw [fW, joinW_set _ _ _ _ (by rw [mkF_len]; exact h.len) hi, mkF_set hx, fW]

theorem cell_of_box {W : World} {b : Nat} {v : Value} {t : TypeId} (h : W.heap[b]? = some (.cells #[v] t)) : W.cell? ⟨b, 0, none⟩ = some v := by
  rw [cell_of_row W b 0 _ t (0, 0) h]; rfl

set_option maxRecDepth 100000 in
set_option maxHeartbeats 1000000 in
theorem nm1_c (pb mb wb n cap q : Nat) (x L A : Int) (M : Bool) (w : World) (hp : w.heap[pb]? = some (.cells #[.pointer (some ⟨mb, 0, none⟩)] 61)) (h0 : w.cell? ⟨mb, 0, none⟩ = some (.slice (some ⟨wb, 0, none⟩) n cap)) (hx : w.cell? ⟨wb, q, none⟩ = some (.int .u64 x)) (hf : w.frozen? ⟨wb, q, none⟩ = false) (hq : q < n) (hn : n ≤ 256) :
    Calls Try.prog 39 #[.int .i64 (q : Nat), .agg #[.int .i64 L, .bool M, .int .i64 A], .pointer (some ⟨pb, 0, none⟩)] w fun e w' => e = .returned (.tuple #[]) ∧ ∃ w1, Below w.heap.size w w1 ∧ w' = w1.setCell ⟨wb, q, none⟩ (.int .u64 (headW L false A)) := by
  have hlm : mb < w.heap.size := World.block_lt_of_cell? w _ h0
  have hlw : wb < w.heap.size := World.block_lt_of_cell? w _ hx
  have hlp : pb < w.heap.size := (Array.getElem?_eq_some_iff.1 hp).1
  have hcp := cell_of_box hp
  have hb0 : Below w.heap.size w (w.alloc (.cells #[.int .i64 L, .bool M, .int .i64 A] 51)) := (Below.refl _ _).alloc (Nat.le_refl _) _
  have Hc := hide (set_w mb wb n cap q x L A M false _ ((hb0.cell (p := ⟨mb, 0, none⟩) hlm).trans h0) ((hb0.cell (p := ⟨wb, q, none⟩) hlw).trans hx) ((hb0.frozen (p := ⟨wb, q, none⟩) hlw).trans hf) hq hn)
  clear hp
  go_enter Try.func39, Try.ntmps39
  go_wp2_with fail
  refine (unhide Hc).mono ?_
  rintro e w2 ⟨rfl, w1, hb1, rfl⟩
  go_wp2
  exact bodyPost_end (v := .tuple #[]) (results_none rfl _ _ _) rfl ⟨rfl, w1, hb0.trans (hb1.mono (by simp)), rfl⟩

/-- What holds while marks are taken away. -/
def NmI (w0 : World) (N mb pb : Nat) (vw vr vk : Value) (hs : List Int) (fs : List (List Int)) (rs : List Int) (room : Nat) (k : Nat) (W : World) : Prop :=
  Mk W N mb vw vr vk (fW hs fs k) rs [] room false ∧ W.heap[pb]? = some (.cells #[.pointer (some ⟨mb, 0, none⟩)] 61) ∧ Below N w0 W ∧ KeepT w0 W

theorem nmEach (N mb pb cap : Nat) (a : Option Addr) (vr vk : Value) (hs : List Int) (fs : List (List Int)) (rs : List Int) (room : Nat) (w : World) (hF : Fit hs fs) (h256 : tot fs ≤ 256)
    (hM : Mk w N mb (.slice a (tot fs) cap) vr vk (joinW hs fs) rs [] room false) (hp : w.heap[pb]? = some (.cells #[.pointer (some ⟨mb, 0, none⟩)] 61)) :
    Calls Try.prog 29 #[.slice a (tot fs : Nat) cap, .func (.func 39) #[] #[.pointer (some ⟨pb, 0, none⟩)]] w fun e w' => e = .returned (.tuple #[]) ∧ NmI w N mb pb (.slice a (tot fs) cap) vr vk hs fs rs room fs.length w' := by
  refine each39_c _ a cap fs (NmI w N mb pb (.slice a (tot fs) cap) vr vk hs fs rs room) w h256 ⟨?_, hp, Below.refl _ _, KeepT.refl _⟩ ?_
  · rw [fW, mkF_zero]; exact hM
  · intro k hk W hI
    obtain ⟨hMW, hpW, hbW, hkW⟩ := hI
    obtain ⟨x, hx, hx1, hx2, hx3, hx4⟩ := fit_at hF hk
    have hml := fW_len hF k
    have hpl := place_lt hk
    obtain ⟨wb, cap', hvw, hwN, hwb, hcap⟩ := hMW.words (by rw [hml]; omega)
    rw [hml] at hvw
    injection hvw with h1 _ h3
    subst h1 h3
    have hg := fW_get hF hx
    have hc := (hMW.wcell hml.symm hg).1
    refine ⟨wb, 0, x, rfl, by rw [Nat.zero_add]; exact hc, hx3, hx4, hx1, hx2, fun W' hb' => ?_⟩
    have hM' := hMW.below hb'
    have hp' : W'.heap[pb]? = some (.cells #[.pointer (some ⟨mb, 0, none⟩)] 61) := by rw [hb'.block pb (Array.getElem?_eq_some_iff.1 hpW).1]; exact hpW
    refine (nm1_c pb mb wb (tot fs) cap _ x _ (uhA x) (uhM x) W' hp' hM'.box.c0 (hM'.wcell hml.symm hg).1 (hM'.wcell hml.symm hg).2 hpl h256).mono ?_
    rintro e W2 ⟨rfl, w1, hb1, rfl⟩
    have hM1 := hM'.below hb1
    have hty := ty_row (show w1.ownsRow N 55 1 (.slice (some ⟨wb, 0, none⟩) (tot fs) cap) (tot fs) (wordsV (fW hs fs k)) from by have := hM1.wo; rw [hml] at this; exact this)
    have hkt : KeepT W' (w1.setCell ⟨wb, tot (fs.take k), none⟩ (.int .u64 (headW (fs[k].length : Int) false (uhA x)))) := (KeepT.below hb1).setCell hty (.inl rfl) _
    refine ⟨rfl, ⟨?_, ?_, ?_, ?_⟩, hkt.k51, by have := hb1.size; simpa [World.setCell] using this⟩
    · have := hM1.setW hml.symm (tot (fs.take k)) (headW (fs[k].length : Int) false (uhA x))
      have e : headW (fs[k].length : Int) false (uhA x) = reh false x := by
        unfold reh
        rw [uhL_wlen hx1, hx2]
      rw [e, fW_set hF hx] at this
      rw [e]
      exact this
    · exact hkt pb _ 61 hp' (by decide) (by decide) (by decide)
    · exact (hbW.trans ((hb'.trans (hb1.mono hb'.size)).mono (by omega))).setCell (p := ⟨wb, tot (fs.take k), none⟩) hwN _
    · exact (hkW.trans (KeepT.below hb')).trans hkt

end Go.Proofs.Ytjhndbfhiknngaa

/- Walks: Sweep. -/
namespace Go.Proofs.Ytjhndbfhiknngaa
set_option linter.unusedSimpArgs false
set_option linter.unusedVariables false
open Go.RowKit Go.Shelf
attribute [local go_sem] field51_0 field51_1

/-- The blocks that are swept so far, in a variable. -/
def SwS (N vb : Nat) (l : List (Nat × Nat)) (W : World) : Prop := ∃ v, W.ownsRow N 57 2 v l.length (cellsB l) ∧ W.heap[vb]? = some (.cells #[v] 28) ∧ v.ownBlock ≠ some vb

theorem SwS.below {N vb : Nat} {l : List (Nat × Nat)} {W W' : World} (h : SwS N vb l W) (hb : Below W.heap.size W W') : SwS N vb l W' := by
  obtain ⟨v, h1, h2, h3⟩ := h
  exact ⟨v, ownsRow_below h1 hb, by rw [hb.block vb (Array.getElem?_eq_some_iff.1 h2).1]; exact h2, h3⟩

theorem Keep51.below {W W' : World} (h : Below W.heap.size W W') : Keep51 W W' := fun k cs hk => by rw [h.block k (Array.getElem?_eq_some_iff.1 hk).1]; exact hk
theorem Keep51.trans {a b c : World} (h : Keep51 a b) (h' : Keep51 b c) : Keep51 a c := fun k cs hk => h' k cs (h k cs hk)
theorem keep51_grown {W W' : World} {base n : Nat} {v : Value} {xs : List Value} (hr : W.ownsRow base 57 2 v n xs) (hg : W.grownBy W' v.ownBlock) : Keep51 W W' := by
  intro k cs hk
  rw [hg.block k (Array.getElem?_eq_some_iff.1 hk).1 ?_]
  · exact hk
  · intro e
    rcases hr.2 with ⟨rfl, _⟩ | ⟨g, cap, cur, rfl, _, hb, _⟩
    · simp [Value.ownBlock] at e
    · obtain rfl : k = g := by simpa [Value.ownBlock] using e
      rw [hk] at hb
      injection hb with hb
      injection hb with _ hb
      exact absurd hb (by decide)
theorem keep51_set {W : World} {vb : Nat} {v u : Value} (h : W.heap[vb]? = some (.cells #[v] 28)) : Keep51 W (W.setCell ⟨vb, 0, none⟩ u) := by
  intro k cs hk
  rw [Below.heap_setCell _ _ _ _ ?_]
  · exact hk
  · rintro rfl
    rw [hk] at h
    injection h with h
    injection h with _ h
    exact absurd h (by decide)

set_option maxRecDepth 100000 in
set_option maxHeartbeats 1000000 in
theorem sw1_c (N vb : Nat) (l : List (Nat × Nat)) (q n : Nat) (b : Bool) (A : Int) (w : World) (hS : SwS N vb l w) (hN : N ≤ vb) (hl : ∀ x ∈ l, x.1 + x.2 ≤ 256) (hn : l.length ≤ 256) (hq : q ≤ 256) (hm : n ≤ 4) :
    Calls Try.prog 30 #[.int .i64 (q : Nat), .agg #[.int .i64 (n : Nat), .bool b, .int .i64 A], .pointer (some ⟨vb, 0, none⟩)] w fun e w' => e = .returned (.tuple #[]) ∧ SwS N vb (if b then l else joinB l (q, 1 + n)) w' ∧ Below N w w' ∧ Keep51 w w' := by
  have hNw : N ≤ w.heap.size := by obtain ⟨v, _, h2, _⟩ := hS; have := (Array.getElem?_eq_some_iff.1 h2).1; omega
  have hb0 : Below w.heap.size w (w.alloc (.cells #[.int .i64 (n : Nat), .bool b, .int .i64 A] 51)) := (Below.refl _ _).alloc (Nat.le_refl _) _
  cases b
  · obtain ⟨v, h1, h2, h3⟩ := hS.below hb0
    have hcv := cell_of_box h2
    have hfv : (w.alloc (.cells #[.int .i64 (n : Nat), .bool false, .int .i64 A] 51)).frozen? ⟨vb, 0, none⟩ = false := frozen_of_row _ vb 0 _ 28 h2
    have hlv : vb < (w.alloc (.cells #[.int .i64 (n : Nat), .bool false, .int .i64 A] 51)).heap.size := (Array.getElem?_eq_some_iff.1 h2).1
    have hlv' : vb < w.heap.size := by obtain ⟨v, _, h2, _⟩ := hS; exact (Array.getElem?_eq_some_iff.1 h2).1
    have H1 := hide h1
    have H2 := hide h2
    obtain ⟨va, vc, hv⟩ := ownsRow_slice h1
    subst hv
    have Hc := hide (join_c (.slice va l.length vc) N l q (1 + n) _ h1 hl hn hq (by omega) (by simp; omega))
    rw [Int.natCast_add] at Hc
    have w1 : IntKind.i64.wrap (1 + (n : Int)) = 1 + (n : Int) := by rw [IntKind.wrap_i64]; omega
    clear h1 h2 hS
    go_enter Try.func30, Try.ntmps30
    go_wp2_with fail
    refine (unhide Hc).mono ?_
    rintro e w2 ⟨v', rfl, hr', hg', hat⟩
    have hne : some vb ≠ Value.ownBlock (.slice va l.length vc) := fun e => h3 e.symm
    have h2' : w2.heap[vb]? = some (.cells #[.slice va l.length vc] 28) := (hg'.block vb hlv hne).trans (unhide H2)
    have hcv2 := cell_of_box h2'
    have hfv2 : w2.frozen? ⟨vb, 0, none⟩ = false := frozen_of_row _ vb 0 _ 28 h2'
    have hlv2 : vb < w2.heap.size := (Array.getElem?_eq_some_iff.1 h2').1
    obtain ⟨va', vc', hv'⟩ := ownsRow_slice hr'
    have Hr' := hide hr'
    have Hg' := hide hg'
    have H2' := hide h2'
    have Hv' := hide hv'
    clear hr' hg' h2' hne
    subst hv'
    clear Hv'
    generalize hjl : (joinB l (q, 1 + n)).length = jl at *
    have Hjl := hide hjl
    clear hjl
    go_wp2
    refine bodyPost_end (v := .tuple #[]) (results_none rfl _ _ _) rfl ⟨rfl, ⟨.slice va' jl vc', ?_, ?_, ?_⟩, ?_, ?_⟩
    · have hgs := grown_set w2 vb 0 (.slice va' jl vc')
      have hx : Value.ownBlock (.slice va' jl vc') ≠ some vb := by
        rcases hat with e | ⟨k, e, hk⟩
        · rw [e]; exact h3
        · rw [e]; intro e'; injection e' with e'; simp at hk; omega
      have := (unhide Hr').kept hgs (.inr hx)
      rw [← unhide Hjl] at this ⊢
      exact this
    · exact heap_setCell_same w2 vb 0 _ 28 _ (unhide H2')
    · rcases hat with e | ⟨k, e, hk⟩
      · rw [e]; exact h3
      · rw [e]; intro e'; injection e' with e'; simp at hk; omega
    · exact (((hb0.mono hNw)).grown (unhide Hg') (by simp; omega) (fun k e => ((unhide H1).lt k e).1)).setCell (p := ⟨vb, 0, none⟩) hN _
    · exact ((Keep51.below hb0).trans (keep51_grown (unhide H1) (unhide Hg'))).trans (keep51_set (unhide H2'))
  · have HS := hide (hS.below hb0)
    clear hS
    go_enter Try.func30, Try.ntmps30
    go_wp2
    exact bodyPost_end (v := .tuple #[]) (results_none rfl _ _ _) rfl ⟨rfl, unhide HS, hb0.mono hNw, Keep51.below hb0⟩

end Go.Proofs.Ytjhndbfhiknngaa

/- Walks: Sweep. -/
namespace Go.Proofs.Ytjhndbfhiknngaa
set_option linter.unusedSimpArgs false
set_option linter.unusedVariables false
open Go.RowKit Go.Shelf

theorem apart_le {l : List (Nat × Nat)} {e : Nat} (h : Apart l e) : ∀ x ∈ l, x.1 + x.2 ≤ e := by
  have key : ∀ (d i : Nat) (x : Nat × Nat), i + d + 1 = l.length → l[i]? = some x → x.1 + x.2 ≤ e := by
    intro d
    induction d with
    | zero =>
      intro i x hi hx
      refine h.2.2 x ?_
      rw [List.getLast?_eq_getElem?, show l.length - 1 = i by omega]
      exact hx
    | succ d ih =>
      intro i x hi hx
      have hlt : i + 1 < l.length := by omega
      have h1 := h.2.1 i x l[i + 1] hx (List.getElem?_eq_getElem hlt)
      have h2 := ih (i + 1) l[i + 1] (by omega) (List.getElem?_eq_getElem hlt)
      omega
  intro x hx
  obtain ⟨i, hi⟩ := List.getElem?_of_mem hx
  have hlt := (List.getElem?_eq_some_iff.1 hi).1
  exact key (l.length - i - 1) i x (by omega) hi

/-- A slice of blocks, below block B. -/
def Blks (B : Nat) (w : World) (a : Option Addr) (l : List (Nat × Nat)) : Prop :=
  l.length ≤ 9223372036854775807 ∧ (l ≠ [] → ∃ b off, a = some ⟨b, off, none⟩ ∧ b < B ∧ ∀ k x, l[k]? = some x → w.cell? ⟨b, off + k * 2, none⟩ = some (.int .i64 (x.1 : Nat)) ∧ w.cell? ⟨b, off + k * 2 + 1, none⟩ = some (.int .i64 (x.2 : Nat)))

theorem Blks.below {B : Nat} {w w' : World} {a : Option Addr} {l : List (Nat × Nat)} (h : Blks B w a l) (hb : Below B w w') : Blks B w' a l := by
  refine ⟨h.1, fun hne => ?_⟩
  obtain ⟨b, off, rfl, hB, hc⟩ := h.2 hne
  refine ⟨b, off, rfl, hB, fun k v hk => ?_⟩
  rw [hb.cell (p := ⟨b, off + k * 2, none⟩) hB, hb.cell (p := ⟨b, off + k * 2 + 1, none⟩) hB]
  exact hc k v hk

theorem Blks.mono {B B' : Nat} {w : World} {a : Option Addr} {l : List (Nat × Nat)} (h : Blks B w a l) (hb : B ≤ B') : Blks B' w a l := by
  refine ⟨h.1, fun hne => ?_⟩
  obtain ⟨b, off, rfl, hB, hc⟩ := h.2 hne
  exact ⟨b, off, rfl, by omega, hc⟩

theorem Blks.at {B : Nat} {w : World} {a : Option Addr} {l : List (Nat × Nat)} (h : Blks B w a l) {k : Nat} (hk : k < l.length) :
    ∃ b off p n, a = some ⟨b, off, none⟩ ∧ b < B ∧ w.cell? ⟨b, off + k * 2, none⟩ = some (.int .i64 (p : Nat)) ∧ w.cell? ⟨b, off + k * 2 + 1, none⟩ = some (.int .i64 (n : Nat)) ∧ Hid (l[k] = (p, n)) := by
  obtain ⟨b, off, rfl, hB, hc⟩ := h.2 (by intro e; subst e; simp at hk)
  exact ⟨b, off, l[k].1, l[k].2, rfl, hB, (hc k l[k] (by simp [hk])).1, (hc k l[k] (by simp [hk])).2, rfl⟩

theorem blks_of_owns {w : World} {base : Nat} {e : TypeId} {v : Value} {n : Nat} {l : List (Nat × Nat)} (h : w.ownsRow base e 2 v n (cellsB l)) (hn : n = l.length) (hs : n ≤ 9223372036854775807) :
    ∃ a cap, v = .slice a l.length cap ∧ Blks w.heap.size w a l := by
  obtain ⟨_, h2⟩ := h
  rcases h2 with ⟨rfl, h0⟩ | ⟨g, cap, cur, rfl, hb, hg, hc1, hc2, hc3, htake⟩
  · refine ⟨none, 0, by rw [← hn, h0], ⟨by omega, fun hne => ?_⟩⟩
    have : l = [] := List.eq_nil_of_length_eq_zero (by omega)
    exact absurd this hne
  · refine ⟨_, cap, by rw [hn], ⟨by omega, fun _ => ⟨g, 0, rfl, (Array.getElem?_eq_some_iff.1 hg).1, fun k v hk => ?_⟩⟩⟩
    obtain ⟨h1, h2⟩ := cellsB_get l k v hk
    rw [← htake] at h1 h2
    rw [List.getElem?_take] at h1 h2
    have hcell : ∀ j u, (if j < n * 2 then cur.toList[j]? else none) = some u → w.cell? ⟨g, 0 + j, none⟩ = some u := by
      intro j u hj
      split at hj
      · rw [Nat.zero_add, cell_of_row w g j cur e (0, 0) hg]; simpa using hj
      · cases hj
    exact ⟨hcell _ _ h1, by have := hcell _ _ h2; simpa [Nat.add_assoc] using this⟩

theorem swEach (N vb cap : Nat) (a : Option Addr) (hs : List Int) (fs : List (List Int)) (rs : List Int) (w : World) (hA : Arn hs fs rs) (hW : Wds N w a (joinW hs fs)) (hN : N ≤ vb) (hS : SwS N vb [] w) :
    Calls Try.prog 29 #[.slice a (tot fs : Nat) cap, .func (.func 30) #[] #[.pointer (some ⟨vb, 0, none⟩)]] w fun e w' => e = .returned (.tuple #[]) ∧ SwS N vb (sweepL hs fs fs.length) w' ∧ Below N w w' := by
  have hF := hA.fit
  refine each30_c _ a cap fs (fun k W => SwS N vb (sweepL hs fs k) W ∧ Below N w W) w hA.n256 ⟨hS, Below.refl _ _⟩ ?_
  intro k hk W hI
  obtain ⟨hSW, hbW⟩ := hI
  obtain ⟨x, hx, hx1, hx2, hx3, hx4⟩ := fit_at hF hk
  have hpl := place_lt hk
  have hjl := joinW_len hs fs hF.len
  have hlt : tot (fs.take k) < (joinW hs fs).length := by omega
  obtain ⟨b, off, ha, hbN, hc⟩ := (hW.below hbW).at hlt
  subst ha
  have hg := joinW_get hs fs k hF.len hk
  rw [hx] at hg
  rw [(List.getElem?_eq_some_iff.1 hg).2] at hc
  have hkm : W.heap.size ≤ W.heap.size := Nat.le_refl _
  have hNW : N ≤ W.heap.size := by obtain ⟨v, _, h2, _⟩ := hSW; have := (Array.getElem?_eq_some_iff.1 h2).1; omega
  refine ⟨b, off, x, rfl, hc, hx3, hx4, hx1, hx2, fun W' hb' => ?_⟩
  have hap := sweep_apart hF k (by omega)
  have hsl := sweep_len hs fs k
  have htl := tot_len fs
  have h256 := hA.n256
  refine (sw1_c N vb (sweepL hs fs k) (tot (fs.take k)) fs[k].length (uhM x) (uhA x) W' (hSW.below hb') hN (fun y hy => by have := apart_le hap y hy; omega) (by omega) (by omega) (by rw [← hx2]; exact wlen_le hx1)).mono ?_
  rintro e W2 ⟨rfl, h1, h2, h3⟩
  refine ⟨rfl, ⟨?_, (hbW.trans (hb'.mono hNW)).trans h2⟩, h3, h2.size⟩
  cases hm : uhM x
  · rw [sweep_no hx hk hm]; rw [hm] at h1; exact h1
  · rw [sweep_yes hx hm]; rw [hm] at h1; exact h1

/-- What Sweep tells. -/
def SwRes (ws rs : List Int) (e : Ending) (W : World) : Prop :=
  (arenaE ws rs ≠ 0 ∧ e = .returned (.tuple #[.slice none 0 0, .int .i64 (arenaE ws rs)])) ∨
  (arenaE ws rs = 0 ∧ ∃ hs fs a c, Arn hs fs rs ∧ ws = joinW hs fs ∧ e = .returned (.tuple #[.slice a (sweepL hs fs fs.length).length c, .int .i64 0]) ∧ Blks W.heap.size W a (sweepL hs fs fs.length))

set_option maxRecDepth 100000 in
set_option maxHeartbeats 2000000 in
theorem sweep_c (aw ar : Option Addr) (cw cr : Nat) (ws rs : List Int) (B : Nat) (w : World) (hW : Wds B w aw ws) (hR : Wds B w ar rs) (hUW : U64 ws) (hUR : U64 rs) (hB : B ≤ w.heap.size) (hcap : ws.length ≤ cw) :
    Calls Try.prog 9 #[.agg #[.slice aw ws.length cw, .slice ar rs.length cr]] w fun e w' => SwRes ws rs e w' ∧ Below w.heap.size w w' := by
  obtain ⟨W1, hW1⟩ : ∃ W1, w.alloc (.cells #[.slice aw ws.length cw, .slice ar rs.length cr] 24) = W1 := ⟨_, rfl⟩
  have hb1 : Below w.heap.size w W1 := by rw [← hW1]; exact (Below.refl w.heap.size w).alloc (Nat.le_refl _) _
  have hs1 : w.heap.size < W1.heap.size := by rw [← hW1]; simp
  have g0 : W1.cell? ⟨w.heap.size, 0, none⟩ = some (.slice aw ws.length cw) := by rw [← hW1]; simp [go_sem]
  have g1 : W1.cell? ⟨w.heap.size, 1, none⟩ = some (.slice ar rs.length cr) := by rw [← hW1]; simp [go_sem]
  have Hc1 := hide (acheck_c aw ar cw cr ws rs B W1 (hW.below (hb1.mono hB)) (hR.below (hb1.mono hB)) hUW hUR (by omega) hcap)
  go_enter Try.func9, Try.ntmps9
  go_wp2_with fail
  refine (unhide Hc1).mono ?_
  rintro e w2 ⟨rfl, hb2⟩
  clear hW1 Hc1
  have hs2 := hb2.size
  have hbw2 : Below w.heap.size w w2 := hb1.trans (hb2.mono (by omega))
  replace g0 := (hb2.cell (p := ⟨w.heap.size, 0, none⟩) hs1).trans g0
  replace g1 := (hb2.cell (p := ⟨w.heap.size, 1, none⟩) hs1).trans g1
  have hl2 : w.heap.size < w2.heap.size := by omega
  clear hb1 hb2
  by_cases hE : arenaE ws rs = 0
  · obtain ⟨hs, fs, hA, hws⟩ := arn_of hUW hUR hE
    have hjl : tot fs = ws.length := by rw [hws, joinW_len _ _ hA.fit.len]
    have HE := hide hE
    rw [hE]
    obtain ⟨W2, hW2⟩ : ∃ W2, w2.alloc (.cells #[.slice none 0 0] 28) = W2 := ⟨_, rfl⟩
    have hb2' : Below w2.heap.size w2 W2 := by rw [← hW2]; exact (Below.refl _ _).alloc (Nat.le_refl _) _
    have hs2' : w2.heap.size < W2.heap.size := by rw [← hW2]; simp
    have hv2 : W2.heap[w2.heap.size]? = some (.cells #[.slice none 0 0] 28) := by rw [← hW2]; exact heap_alloc_new _ _
    replace g0 := (hb2'.cell (p := ⟨w.heap.size, 0, none⟩) hl2).trans g0
    have hbW2 : Below w.heap.size w W2 := hbw2.trans (hb2'.mono (by omega))
    have Hc2 : Hid (Calls Try.prog 29 #[.slice aw ws.length cw, .func (.func 30) #[] #[.pointer (some ⟨w2.heap.size, 0, none⟩)]] W2 fun e w' => e = .returned (.tuple #[]) ∧ SwS w2.heap.size w2.heap.size (sweepL hs fs fs.length) w' ∧ Below w2.heap.size W2 w') := by
      have := swEach w2.heap.size w2.heap.size cw aw hs fs rs W2 hA (by rw [← hws]; exact ((hW.below (hbW2.mono hB)).mono (by omega))) (Nat.le_refl _) ⟨.slice none 0 0, World.ownsRow_nil _ _ _ _, hv2, by simp [Value.ownBlock]⟩
      rw [hjl] at this
      exact this
    have hsl := sweep_len hs fs fs.length
    have htl := tot_len fs
    have h256 := hA.n256
    have Hfin : Hid (∀ a c W, Blks W.heap.size W a (sweepL hs fs fs.length) → SwRes ws rs (.returned (.tuple #[.slice a (sweepL hs fs fs.length).length c, .int .i64 0])) W) := fun a c W h => .inr ⟨unhide HE, hs, fs, a, c, hA, hws, rfl, h⟩
    have hl2' : w.heap.size < W2.heap.size := by omega
    clear hE hv2 hA hws hjl hW hR
    generalize sweepL hs fs fs.length = SL at *
    go_wp2_with fail
    refine (unhide Hc2).mono ?_
    rintro e w3 ⟨rfl, ⟨v, hr3, hv3, _⟩, hb3⟩
    obtain ⟨a, c, hv, hBl⟩ := blks_of_owns hr3 rfl (by omega)
    subst hv
    have c3 := cell_of_box hv3
    have hl3 : w2.heap.size < w3.heap.size := (Array.getElem?_eq_some_iff.1 hv3).1
    have HBl := hide hBl
    clear hr3 hv3 hBl Hc2 hW2
    go_wp2
    go_ret2
    exact ⟨unhide Hfin a c w3 (unhide HBl), hbW2.trans (hb3.mono (by omega))⟩
  · have HE := hide hE
    have Hfin : Hid (∀ W, SwRes ws rs (.returned (.tuple #[.slice none 0 0, .int .i64 (arenaE ws rs)])) W) := fun W => .inl ⟨unhide HE, rfl⟩
    generalize arenaE ws rs = E at *
    have d0 : (E != 0) = true := by simpa using hE
    clear hE
    go_wp2
    go_ret2
    exact ⟨unhide Hfin _, hbw2⟩

end Go.Proofs.Ytjhndbfhiknngaa

/- Walks: the document's Words, Arenas, packed. -/
namespace Go.Proofs.Ytjhndbfhiknngaa
set_option linter.unusedSimpArgs false
set_option linter.unusedVariables false
open Go.RowKit Go.Shelf

set_option maxRecDepth 100000 in
set_option maxHeartbeats 1000000 in
theorem words_eq_c (a1 a2 : Option Addr) (c1 c2 : Nat) (l1 l2 : List Int) (B : Nat) (w : World) (h1 : Wds B w a1 l1) (h2 : Wds B w a2 l2) (hB : B ≤ w.heap.size) :
    Calls Try.prog 17 #[.slice a1 l1.length c1, .slice a2 l2.length c2] w fun e w' => e = .returned (.bool (decide (l1 = l2))) ∧ Below w.heap.size w w' := by
  have hl1 := h1.1
  have hl2 := h2.1
  by_cases hl : l1.length = l2.length
  · have d1 : ((l1.length : Int) != (l2.length : Int)) = false := by simp [hl]
    have d2 : ((l2.length : Int) != (l2.length : Int)) = false := by simp
    rw [hl]
    have Hl := hide hl
    have hle : l1.length ≤ l2.length := by omega
    have hge : l2.length ≤ l1.length := by omega
    clear hl
    go_enter Try.func17, Try.ntmps17
    go_wp2
    go_loopw [5] (fun i wr => ∃ k : Nat, k ≤ l2.length ∧ i = .int .i64 k ∧ Hid (l1.take k = l2.take k) ∧ Below w.heap.size w wr) (fun i _ => l2.length - (intOf i).toNat)
    case atStart => exact ⟨0, Nat.zero_le _, rfl, by show l1.take 0 = l2.take 0; simp, Below.refl _ _⟩
    case round =>
      obtain ⟨k, hk, rfl, Heq, hb⟩ := hrel
      by_cases hlt : k < l2.length
      · have hlt1 : k < l1.length := by omega
        obtain ⟨b1, o1, rfl, hbB1, hx1⟩ := (h1.below (hb.mono hB)).at hlt1
        obtain ⟨b2, o2, rfl, hbB2, hx2⟩ := (h2.below (hb.mono hB)).at hlt
        have hltI : (k : Int) < (l2.length : Int) := by omega
        have HT1 := hide (List.take_succ_eq_append_getElem hlt1)
        have HT2 := hide (List.take_succ_eq_append_getElem hlt)
        have HN : Hid (l1 = l2 → l1[k] = l2[k]) := by intro e; subst e; rfl
        generalize l1[k] = x at *
        generalize l2[k] = y at *
        by_cases hxy : x = y
        · have d : (x != y) = false := by simpa using hxy
          have Hxy := hide hxy
          clear hxy
          go_wp2
          go_still Try.mixed
          go_wp2
          go_roundw
          case rel => exact ⟨k + 1, by omega, by go_num, by show l1.take (k + 1) = _; rw [unhide HT1, unhide HT2, unhide Heq, unhide Hxy], hb.trans (Below.refl _ _).drew⟩
          case measure => simp [intOf]; omega
        · have d : (x != y) = true := by simpa using hxy
          have Hxy := hide hxy
          clear hxy
          go_wp2
          go_still Try.mixed
          go_wp2
          go_ret
          exact ⟨ret_bool (Eq.symm (decide_eq_false (fun e => unhide Hxy (unhide HN e)))), hb.trans (Below.refl _ _).drew⟩
      · obtain rfl : k = l2.length := by omega
        have Hfin : Hid (l1 = l2) := by
          have := unhide Heq
          rw [List.take_length, List.take_of_length_le hle] at this
          exact this
        go_wp2
        go_ret
        exact ⟨ret_bool (Eq.symm (decide_eq_true (unhide Hfin))), hb⟩
  · have d1 : ((l1.length : Int) != (l2.length : Int)) = true := by simp; omega
    go_enter Try.func17, Try.ntmps17
    go_wp2
    go_ret
    exact ⟨ret_bool (Eq.symm (decide_eq_false (fun e => hl (by rw [e])))), Below.refl _ _⟩

set_option maxRecDepth 100000 in
set_option maxHeartbeats 1000000 in
theorem arenas_eq_c (aw ar bw br : Option Addr) (cw cr dw dr : Nat) (ws rs vs us : List Int) (B : Nat) (w : World) (h1 : Wds B w aw ws) (h2 : Wds B w ar rs) (h3 : Wds B w bw vs) (h4 : Wds B w br us) (hB : B ≤ w.heap.size) :
    Calls Try.prog 11 #[.agg #[.slice aw ws.length cw, .slice ar rs.length cr], .agg #[.slice bw vs.length dw, .slice br us.length dr]] w fun e w' => e = .returned (.bool (decide (ws = vs) && decide (rs = us))) ∧ Below w.heap.size w w' := by
  obtain ⟨W0, hW0⟩ : ∃ W0, (w.alloc (.cells #[.slice aw ws.length cw, .slice ar rs.length cr] 24)).alloc (.cells #[.slice bw vs.length dw, .slice br us.length dr] 24) = W0 := ⟨_, rfl⟩
  have hb0 : Below w.heap.size w W0 := by rw [← hW0]; exact ((Below.refl _ _).alloc (Nat.le_refl _) _).alloc (by simp) _
  have hs0 : w.heap.size + 1 < W0.heap.size := by rw [← hW0]; simp
  have g0 : W0.cell? ⟨w.heap.size, 0, none⟩ = some (.slice aw ws.length cw) := by rw [← hW0]; simp [go_sem]
  have g1 : W0.cell? ⟨w.heap.size, 1, none⟩ = some (.slice ar rs.length cr) := by rw [← hW0]; simp [go_sem]
  have k0 : W0.cell? ⟨w.heap.size + 1, 0, none⟩ = some (.slice bw vs.length dw) := by rw [← hW0]; simp [go_sem]
  have k1 : W0.cell? ⟨w.heap.size + 1, 1, none⟩ = some (.slice br us.length dr) := by rw [← hW0]; simp [go_sem]
  have Hc1 := hide (words_eq_c aw bw cw dw ws vs B W0 (h1.below (hb0.mono hB)) (h3.below (hb0.mono hB)) (by omega))
  go_enter Try.func11, Try.ntmps11
  go_wp2_with fail
  refine (unhide Hc1).mono ?_
  rintro e w2 ⟨he, hb2⟩
  subst he
  clear hW0 Hc1
  have hs2 := hb2.size
  have hbw2 : Below w.heap.size w w2 := hb0.trans (hb2.mono (by omega))
  replace g1 := (hb2.cell (p := ⟨w.heap.size, 1, none⟩) (by simp; omega)).trans g1
  replace k1 := (hb2.cell (p := ⟨w.heap.size + 1, 1, none⟩) hs0).trans k1
  cases hd : decide (ws = vs)
  · have Hd := hide hd
    clear hd
    go_wp2
    go_ret
    exact ⟨ret_bool (by have := unhide Hd; simp at this; simp [this]), hbw2⟩
  · have Hd := hide hd
    clear hd
    have Hc2 := hide (words_eq_c ar br cr dr rs us B w2 (h2.below (hbw2.mono hB)) (h4.below (hbw2.mono hB)) (by omega))
    go_wp2_with fail
    refine (unhide Hc2).mono ?_
    rintro e w3 ⟨he, hb3⟩
    subst he
    go_wp2
    go_ret
    exact ⟨ret_bool (by have := unhide Hd; simp at this; simp [this]), hbw2.trans (hb3.mono (by omega))⟩

theorem words_take_succ {l : List V} {st : List Int} {k : Nat} (hk : k < l.length) {x : Int} (h : packV st l[k] = x) : wordsV ((l.map (packV st)).take (k + 1)) = wordsV ((l.map (packV st)).take k) ++ [.int .u64 x] := by
  rw [List.take_succ_eq_append_getElem (by simpa using hk), List.getElem_map, h, wordsV_snoc]

set_option maxRecDepth 100000 in
set_option maxHeartbeats 2000000 in
theorem rpacked_c (a s0 : Option Addr) (cap caps : Nat) (l : List V) (st : List Int) (B : Nat) (w : World) (hV : Vals B w a l) (hS : Ints B w s0 st) (hB : B ≤ w.heap.size) (hl : l.length ≤ 1000)
    (hr : ∀ v ∈ l, v.1 = true → 0 ≤ v.2 ∧ v.2 < st.length) (hst : ∀ x ∈ st, 0 ≤ x ∧ x ≤ 9223372036854775807) (hn : ∀ v ∈ l, v.1 = false → -9223372036854775808 ≤ v.2 ∧ v.2 ≤ 9223372036854775807) (hsl : st.length ≤ 1000) :
    Calls Try.prog 46 #[.slice a l.length cap, .slice s0 st.length caps] w fun e w' => ∃ a' cap', e = .returned (.slice a' (l.map (packV st)).length cap') ∧ WdsF w.heap.size w' a' (l.map (packV st)) ∧ Below w.heap.size w w' := by
  obtain ⟨i0, hi, hz0, hz1, hz2⟩ := info_parts Try.info55
  go_enter Try.func46, Try.ntmps46
  go_wp2
  go_loopw [5, 12] (fun s i wr => ∃ k : Nat, k ≤ l.length ∧ i = .int .i64 k ∧ wr.ownsRow w.heap.size 55 1 s k (wordsV ((l.map (packV st)).take k)) ∧ Below w.heap.size w wr) (fun _ i _ => l.length - (intOf i).toNat)
  case atStart => exact ⟨0, Nat.zero_le _, rfl, by simpa [wordsV] using World.ownsRow_nil _ _ _ _, Below.refl _ _⟩
  case round =>
    obtain ⟨k, hk, rfl, hown, hb⟩ := hrel
    have hsz := hb.size
    by_cases hlt : k < l.length
    · obtain ⟨b, off, r, m, rfl, hbB, hc1, hc2, Hv⟩ := (hV.below (hb.mono hB)).at hlt
      have hmem : (r, m) ∈ l := by rw [← Hv.out]; exact List.getElem_mem hlt
      have HT := hide (fun x h => words_take_succ (st := st) hlt (x := x) h)
      rw [Hv.out] at HT
      cases r
      · have hrng := hn _ hmem rfl
        have HT2 := hide (unhide HT _ packV_num)
        clear HT Hv
        have Hc := hide (rpack_c false m (wr.alloc (.cells #[.bool false, .int .i64 m] 70)) hrng.1 hrng.2)
        go_wp2_with fail
        refine (unhide Hc).mono ?_
        rintro e w3 ⟨he, hb3⟩
        subst he
        simp only [World.size_alloc] at hb3
        have hs3 := hb3.size
        simp only [World.size_alloc] at hs3
        have hown3 := ownsRow_below (hown.alloc (.cells #[.bool false, .int .i64 m] 70)) (by simpa using hb3)
        have hbw3 : Below w.heap.size w w3 := (hb.alloc (by omega) _).trans (hb3.mono (by omega))
        clear hown Hc
        go_wp2_with (at_builtin; go_must (refine wpList_append_own _ rfl _ _ 22 rfl w.heap.size 55 i0 _ 1 8 Try.underlying22 hi hz0 hz1 hz2 rfl (by decide) _ _ _ rfl (hown3.alloc _) ⟨w3.heap.size, 0, none⟩ 1 1 [.int .u64 (packW false m)] rfl rfl (cell_one_at _ _ _ _ (by simp)) (by simp [Value.oneCell']) (by simp only [maxLen]; omega) (by omega) (by simp; omega) ?_); intro v' w1 hown' hgrow _)
        go_roundw
        case rel => exact ⟨k + 1, by omega, by go_num, by rw [unhide HT2]; exact hown', (hbw3.alloc (by omega) _).grown hgrow (by simp; omega) (fun q e => (hown3.lt q e).1)⟩
        case measure => simp [intOf]; omega
      · have hrng := hr _ hmem rfl
        obtain ⟨mn, rfl⟩ := Int.eq_ofNat_of_zero_le hrng.1
        have hmn : mn < st.length := by have := hrng.2; simp at this; omega
        have hxr := hst _ (List.getElem_mem hmn)
        obtain ⟨b2, off2, rfl, hbB2, hx⟩ := (hS.below (hb.mono hB)).at hmn
        have HT2 := hide (unhide HT (packW true st[mn]) (by simp [packV, List.getD_eq_getElem?_getD, hmn]))
        have hmnI : (mn : Int) < (st.length : Int) := by omega
        have hb2w : b2 < wr.heap.size := by omega
        clear HT Hv hrng
        generalize st[mn] = p at *
        have Hc := hide (rpack_c true p (wr.alloc (.cells #[.bool true, .int .i64 p] 70)) (by omega) (by omega))
        go_wp2_with fail
        refine (unhide Hc).mono ?_
        rintro e w3 ⟨he, hb3⟩
        subst he
        simp only [World.size_alloc] at hb3
        have hs3 := hb3.size
        simp only [World.size_alloc] at hs3
        have hown3 := ownsRow_below (hown.alloc (.cells #[.bool true, .int .i64 p] 70)) (by simpa using hb3)
        have hbw3 : Below w.heap.size w w3 := (hb.alloc (by omega) _).trans (hb3.mono (by omega))
        clear hown Hc
        go_wp2_with (at_builtin; go_must (refine wpList_append_own _ rfl _ _ 22 rfl w.heap.size 55 i0 _ 1 8 Try.underlying22 hi hz0 hz1 hz2 rfl (by decide) _ _ _ rfl (hown3.alloc _) ⟨w3.heap.size, 0, none⟩ 1 1 [.int .u64 (packW true p)] rfl rfl (cell_one_at _ _ _ _ (by simp)) (by simp [Value.oneCell']) (by simp only [maxLen]; omega) (by omega) (by simp; omega) ?_); intro v' w1 hown' hgrow _)
        go_roundw
        case rel => exact ⟨k + 1, by omega, by go_num, by rw [unhide HT2]; exact hown', (hbw3.alloc (by omega) _).grown hgrow (by simp; omega) (fun q e => (hown3.lt q e).1)⟩
        case measure => simp [intOf]; omega
    · obtain rfl : k = l.length := by omega
      rw [List.take_of_length_le (by simp)] at hown
      obtain ⟨a', cap', hv, hWF, _⟩ := wordsF_of_owns hown (by simp) (by omega)
      have HW := hide hWF
      clear hWF
      subst hv
      go_wp2
      go_ret
      exact ⟨a', cap', rfl, unhide HW, hb⟩

end Go.Proofs.Ytjhndbfhiknngaa

/- Walks: the document's Plain; headers in memory. -/
namespace Go.Proofs.Ytjhndbfhiknngaa
set_option linter.unusedSimpArgs false
set_option linter.unusedVariables false
open Go.RowKit Go.Shelf

theorem Try.info51 : (Try.prog.info? 51).map (fun i => (i.zero, i.size, i.bytes)) = some (some (.agg #[.int .i64 0, .bool false, .int .i64 0]), 3, 24) := by kernel_rfl
theorem Try.info2 : (Try.prog.info? 2).map (fun i => (i.zero, i.size, i.bytes)) = some (some (.int .i64 0), 1, 8) := by kernel_rfl

theorem cell_three_at (w : World) (x y z : Value) (t : TypeId) (m : Nat) (hm : m = w.heap.size) : ∀ j u, [x, y, z][j]? = some u → (w.alloc (.cells #[x, y, z] t)).cell? ((⟨m, 0, none⟩ : Addr).add j) = some u := by
  subst hm
  intro j u h
  have hadd : (⟨w.heap.size, 0, none⟩ : Addr).add j = ⟨w.heap.size, j, none⟩ := by unfold Addr.add; split <;> simp_all
  rw [hadd]
  match j, h with
  | 0, h => simp at h; subst h; simp [go_sem]
  | 1, h => simp at h; subst h; simp [go_sem]
  | 2, h => simp at h; subst h; simp [go_sem]
  | j + 3, h => simp at h

/-- A header: how many fields, its mark, its age. -/
abbrev Hd := Int × Bool × Int
def hW (h : Hd) : Int := headW h.1 h.2.1 h.2.2
def cellsH (l : List Hd) : List Value := l.flatMap fun h => [.int .i64 h.1, .bool h.2.1, .int .i64 h.2.2]
theorem cellsH_snoc (l : List Hd) (h : Hd) : cellsH (l ++ [h]) = cellsH l ++ [.int .i64 h.1, .bool h.2.1, .int .i64 h.2.2] := by simp [cellsH]

theorem cellsH_get : ∀ (l : List Hd) (k : Nat) (h : Hd), l[k]? = some h → (cellsH l)[k * 3]? = some (.int .i64 h.1) ∧ (cellsH l)[k * 3 + 1]? = some (.bool h.2.1) ∧ (cellsH l)[k * 3 + 2]? = some (.int .i64 h.2.2)
  | [], _, _, h => by simp at h
  | x :: l, 0, v, h => by simp at h; subst h; simp [cellsH]
  | x :: l, k + 1, v, h => by
    have := cellsH_get l k v (by simpa using h)
    have e1 : (k + 1) * 3 = k * 3 + 1 + 1 + 1 := by omega
    rw [e1]
    simp only [cellsH, List.flatMap_cons, List.cons_append, List.nil_append, List.getElem?_cons_succ]
    exact this

/-- A slice of headers, below block B. -/
def Hdrs (B : Nat) (w : World) (a : Option Addr) (l : List Hd) : Prop :=
  l.length ≤ 9223372036854775807 ∧ (l ≠ [] → ∃ b off, a = some ⟨b, off, none⟩ ∧ b < B ∧ ∀ k h, l[k]? = some h → w.cell? ⟨b, off + k * 3, none⟩ = some (.int .i64 h.1) ∧ w.cell? ⟨b, off + k * 3 + 1, none⟩ = some (.bool h.2.1) ∧ w.cell? ⟨b, off + k * 3 + 2, none⟩ = some (.int .i64 h.2.2))

theorem Hdrs.below {B : Nat} {w w' : World} {a : Option Addr} {l : List Hd} (h : Hdrs B w a l) (hb : Below B w w') : Hdrs B w' a l := by
  refine ⟨h.1, fun hne => ?_⟩
  obtain ⟨b, off, rfl, hB, hc⟩ := h.2 hne
  refine ⟨b, off, rfl, hB, fun k v hk => ?_⟩
  rw [hb.cell (p := ⟨b, off + k * 3, none⟩) hB, hb.cell (p := ⟨b, off + k * 3 + 1, none⟩) hB, hb.cell (p := ⟨b, off + k * 3 + 2, none⟩) hB]
  exact hc k v hk

theorem Hdrs.mono {B B' : Nat} {w : World} {a : Option Addr} {l : List Hd} (h : Hdrs B w a l) (hb : B ≤ B') : Hdrs B' w a l := by
  refine ⟨h.1, fun hne => ?_⟩
  obtain ⟨b, off, rfl, hB, hc⟩ := h.2 hne
  exact ⟨b, off, rfl, by omega, hc⟩

theorem Hdrs.at {B : Nat} {w : World} {a : Option Addr} {l : List Hd} (h : Hdrs B w a l) {k : Nat} (hk : k < l.length) :
    ∃ b off n m e, a = some ⟨b, off, none⟩ ∧ b < B ∧ w.cell? ⟨b, off + k * 3, none⟩ = some (.int .i64 n) ∧ w.cell? ⟨b, off + k * 3 + 1, none⟩ = some (.bool m) ∧ w.cell? ⟨b, off + k * 3 + 2, none⟩ = some (.int .i64 e) ∧ Hid (l[k] = (n, m, e)) := by
  obtain ⟨b, off, rfl, hB, hc⟩ := h.2 (by intro e; subst e; simp at hk)
  obtain ⟨h1, h2, h3⟩ := hc k l[k] (by simp [hk])
  exact ⟨b, off, l[k].1, l[k].2.1, l[k].2.2, rfl, hB, h1, h2, h3, rfl⟩

theorem hdrs_of_owns {w : World} {base : Nat} {e : TypeId} {v : Value} {n : Nat} {l : List Hd} (h : w.ownsRow base e 3 v n (cellsH l)) (hn : n = l.length) (hs : n ≤ 9223372036854775807) :
    ∃ a cap, v = .slice a l.length cap ∧ Hdrs w.heap.size w a l := by
  obtain ⟨_, h2⟩ := h
  rcases h2 with ⟨rfl, h0⟩ | ⟨g, cap, cur, rfl, hb, hg, hc1, hc2, hc3, htake⟩
  · refine ⟨none, 0, by rw [← hn, h0], ⟨by omega, fun hne => ?_⟩⟩
    have : l = [] := List.eq_nil_of_length_eq_zero (by omega)
    exact absurd this hne
  · refine ⟨_, cap, by rw [hn], ⟨by omega, fun _ => ⟨g, 0, rfl, (Array.getElem?_eq_some_iff.1 hg).1, fun k v hk => ?_⟩⟩⟩
    obtain ⟨h1, h2, h3⟩ := cellsH_get l k v hk
    rw [← htake] at h1 h2 h3
    rw [List.getElem?_take] at h1 h2 h3
    have hcell : ∀ j u, (if j < n * 3 then cur.toList[j]? else none) = some u → w.cell? ⟨g, 0 + j, none⟩ = some u := by
      intro j u hj
      split at hj
      · rw [Nat.zero_add, cell_of_row w g j cur e (0, 0) hg]; simpa using hj
      · cases hj
    exact ⟨hcell _ _ h1, by have := hcell _ _ h2; simpa [Nat.add_assoc] using this, by have := hcell _ _ h3; simpa [Nat.add_assoc] using this⟩

/-- Headers of objects, not marked, of age 0. -/
def plainH (L : List (List V)) : List Hd := L.map fun o => ((o.length : Int), false, 0)
theorem plainH_len (L : List (List V)) : (plainH L).length = L.length := by simp [plainH]
theorem plainH_succ {L : List (List V)} {k : Nat} (h : k < L.length) : cellsH (plainH (L.take (k + 1))) = cellsH (plainH (L.take k)) ++ [.int .i64 (L[k].length : Int), .bool false, .int .i64 0] := by
  rw [List.take_succ_eq_append_getElem h]; simp only [plainH, List.map_append, List.map_cons, List.map_nil, cellsH_snoc]

end Go.Proofs.Ytjhndbfhiknngaa
