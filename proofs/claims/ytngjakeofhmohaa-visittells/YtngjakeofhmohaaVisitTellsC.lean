/- Merged texts: Bg Ca Ea Ma Sb Wb Xb Sh Si Sj Na Ga Mb Mc Me Gb. -/
import Derived.Test.YtngjakeofhmohaaProg
import Derived.Test.YtngjakeofhmohaaVisitTellsB
import Derived.WalkSmall
import Derived.Deep.RegionWith
import Derived.RegionTactic
import Derived.BigQuiet

/- Walks: Check, Starts, Read; unsound. -/
namespace Go.Proofs.Ytngjakeofhmohaa
set_option linter.unusedSimpArgs false
set_option linter.unusedVariables false
open Go.RowKit Go.Shelf

/-- What is told, whether an arena may be or not. -/
theorem ReadRes.shape {base : Nat} {ws rs : List Int} {e : Ending} {W : World} (h : ReadRes base ws rs e W) : ∃ ao no co ar nr cr sa ns sc, e = .returned (.tuple #[.agg #[.slice ao no co, .slice ar nr cr], .slice sa ns sc, .int .i64 (arenaE ws rs)]) ∧
    (arenaE ws rs ≠ 0 → ao = none ∧ no = 0 ∧ co = 0 ∧ ar = none ∧ nr = 0 ∧ cr = 0 ∧ sa = none ∧ ns = 0 ∧ sc = 0) ∧
    (arenaE ws rs = 0 → ∃ fs, splitR ws = some fs ∧ no = (readG fs rs).objs.length ∧ nr = (readG fs rs).roots.length ∧ ns = (stF 0 fs).length ∧ ObjsF base W ao (readG fs rs).objs ∧ ValsF base W ar (readG fs rs).roots ∧ IntsF base W sa (stF 0 fs)) := by
  rcases h with ⟨h1, h2⟩ | ⟨h1, fs, ao, co, ar, cr, sa, sc, h2, h3, h4, h5, h6⟩
  · exact ⟨_, _, _, _, _, _, _, _, _, h2, fun _ => ⟨rfl, rfl, rfl, rfl, rfl, rfl, rfl, rfl, rfl⟩, fun h => absurd h h1⟩
  · exact ⟨_, _, _, _, _, _, _, _, _, by rw [h3, h1], fun h => absurd h1 h, fun _ => ⟨fs, h2, rfl, rfl, rfl, h4, h5, h6⟩⟩

set_option maxRecDepth 100000 in
set_option maxHeartbeats 1000000 in
theorem acheck_c (aw ar : Option Addr) (cw cr : Nat) (ws rs : List Int) (B : Nat) (w : World) (hW : Wds B w aw ws) (hR : Wds B w ar rs) (hUW : U64 ws) (hUR : U64 rs) (hB : B ≤ w.heap.size) (hcap : ws.length ≤ cw) :
    Calls Try.prog 32 #[.agg #[.slice aw ws.length cw, .slice ar rs.length cr]] w fun e w' => e = .returned (.int .i64 (arenaE ws rs)) ∧ Below w.heap.size w w' := by
  have hb1 := (Below.refl w.heap.size w).alloc (Nat.le_refl _) (.cells #[.slice aw ws.length cw, .slice ar rs.length cr] 24)
  go_enter Try.func32, Try.ntmps32
  go_wp2_with fail
  refine (read_c _ _ _ _ ws rs B _ (hW.below (hb1.mono hB)) (hR.below (hb1.mono hB)) hUW hUR (by simp; omega) hcap).mono ?_
  rintro e w2 ⟨hres, hb2⟩
  obtain ⟨ao, no, co, ar', nr, cr', sa, ns, sc, rfl, _, _⟩ := hres.shape
  clear hres
  simp only [World.size_alloc] at hb2
  have hs2 := hb2.size
  simp only [World.size_alloc] at hs2
  go_wp2
  go_ret
  exact ⟨rfl, (hb1.trans (hb2.mono (by omega))).alloc (by omega) _⟩

def StartRes (base : Nat) (ws rs : List Int) (e : Ending) (W : World) : Prop :=
  (arenaE ws rs ≠ 0 ∧ e = .returned (.tuple #[.slice none 0 0, .int .i64 (arenaE ws rs)])) ∨ (arenaE ws rs = 0 ∧ ∃ fs sa sc, splitR ws = some fs ∧ e = .returned (.tuple #[.slice sa (stF 0 fs).length sc, .int .i64 0]) ∧ IntsF base W sa (stF 0 fs))

set_option maxRecDepth 100000 in
set_option maxHeartbeats 1000000 in
theorem astarts_c (aw ar : Option Addr) (cw cr : Nat) (ws rs : List Int) (B : Nat) (w : World) (hW : Wds B w aw ws) (hR : Wds B w ar rs) (hUW : U64 ws) (hUR : U64 rs) (hB : B ≤ w.heap.size) (hcap : ws.length ≤ cw) :
    Calls Try.prog 21 #[.agg #[.slice aw ws.length cw, .slice ar rs.length cr]] w fun e w' => StartRes w.heap.size ws rs e w' ∧ Below w.heap.size w w' := by
  have hb1 := (Below.refl w.heap.size w).alloc (Nat.le_refl _) (.cells #[.slice aw ws.length cw, .slice ar rs.length cr] 24)
  go_enter Try.func21, Try.ntmps21
  go_wp2_with fail
  refine (read_c _ _ _ _ ws rs B _ (hW.below (hb1.mono hB)) (hR.below (hb1.mono hB)) hUW hUR (by simp; omega) hcap).mono ?_
  rintro e w2 ⟨hres, hb2⟩
  obtain ⟨ao, no, co, ar', nr, cr', sa, ns, sc, rfl, h0, h1⟩ := hres.shape
  have H0 := hide h0
  have H1 := hide h1
  clear hres h0 h1
  simp only [World.size_alloc] at hb2 H1
  have hs2 := hb2.size
  simp only [World.size_alloc] at hs2
  go_wp2
  go_ret2
  refine ⟨?_, (hb1.trans (hb2.mono (by omega))).alloc (by omega) _⟩
  by_cases hE : arenaE ws rs = 0
  · obtain ⟨fs, e1, e2, e3, e4, h5, h6, h7⟩ := unhide H1 hE
    refine .inr ⟨hE, fs, sa, sc, e1, by rw [← e4]; exact congrArg (fun x => Ending.returned (.tuple #[.slice sa ns sc, .int .i64 x])) hE, (h7.below ((Below.refl _ _).alloc (Nat.le_refl _) _)).base (by omega)⟩
  · obtain ⟨_, _, _, _, _, _, rfl, rfl, rfl⟩ := unhide H0 hE
    exact .inl ⟨hE, rfl⟩

def AReadRes (base : Nat) (ws rs : List Int) (e : Ending) (W : World) : Prop :=
  (arenaE ws rs ≠ 0 ∧ e = .returned (.tuple #[.agg #[.slice none 0 0, .slice none 0 0], .int .i64 (arenaE ws rs)])) ∨
  (arenaE ws rs = 0 ∧ ∃ fs ao co ar cr, splitR ws = some fs ∧ e = .returned (.tuple #[.agg #[.slice ao (readG fs rs).objs.length co, .slice ar (readG fs rs).roots.length cr], .int .i64 0]) ∧ ObjsF base W ao (readG fs rs).objs ∧ ValsF base W ar (readG fs rs).roots)

set_option maxRecDepth 100000 in
set_option maxHeartbeats 400000 in
theorem unsound_c (aw ar : Option Addr) (cw cr : Nat) (ws rs : List Int) (B : Nat) (w : World) (hW : Wds B w aw ws) (hR : Wds B w ar rs) (hUW : U64 ws) (hUR : U64 rs) (hB : B ≤ w.heap.size) (hcap : ws.length ≤ cw) :
    Calls Try.prog 13 #[.agg #[.slice aw ws.length cw, .slice ar rs.length cr]] w fun e w' => e = .returned (.bool (arenaE ws rs != 0)) ∧ Below w.heap.size w w' := by
  have hb1 := (Below.refl w.heap.size w).alloc (Nat.le_refl _) (.cells #[.slice aw ws.length cw, .slice ar rs.length cr] 24)
  go_enter Try.func13, Try.ntmps13
  go_wp2_with (go_at_call 32; go_must (refine (acheck_c _ _ _ _ ws rs B _ (hW.below (hb1.mono hB)) (hR.below (hb1.mono hB)) hUW hUR (by simp; omega) hcap).mono ?_); rintro e w2 ⟨rfl, hb2⟩)
  go_ret
  exact ⟨rfl, hb1.trans (hb2.mono (by simp))⟩

end Go.Proofs.Ytngjakeofhmohaa

/- Walks: ArenaCovers. -/
namespace Go.Proofs.Ytngjakeofhmohaa
set_option linter.unusedSimpArgs false
set_option linter.unusedVariables false
open Go.RowKit Go.Shelf

theorem readG_len (fs : List (List Int)) (rs : List Int) : (readG fs rs).objs.length = fs.length := by simp [readG]
theorem readG_rlen (fs : List (List Int)) (rs : List Int) : (readG fs rs).roots.length = rs.length := by simp [readG]
theorem readG_flen {fs : List (List Int)} {rs : List Int} {k : Nat} {l : List V} (h : (readG fs rs).objs[k]? = some l) : ∃ hk : k < fs.length, l.length = fs[k].length := by
  have hk : k < fs.length := by have := (List.getElem?_eq_some_iff.1 h).1; rw [readG_len] at this; exact this
  refine ⟨hk, ?_⟩
  simp [readG, hk] at h
  rw [← h]
  simp

end Go.Proofs.Ytngjakeofhmohaa

/- Plain: what is laid is read as it was; what is read is laid as it stood. -/
namespace Go.Proofs.Ytngjakeofhmohaa
set_option linter.unusedSimpArgs false
set_option linter.unusedVariables false
open Go.RowKit

theorem uh_of_zero {x : Int} (h : uhE x = 0) : unheadOk x = true := by
  cases e : unheadOk x
  · simp [uhE, e] at h
  · rfl

theorem head_plain {n : Nat} (h : n ≤ 4) : unheadOk (headW (n : Int) false 0) = true ∧ wlen (headW (n : Int) false 0) = n ∧ 0 ≤ headW (n : Int) false 0 ∧ headW (n : Int) false 0 < 18446744073709551616 := by
  have he : headE (n : Int) 0 = 0 := by
    have : headOk (n : Int) 0 = true := by simp [headOk]; omega
    simp [headE, this]
  obtain ⟨h1, h2, h3, _, _, h6⟩ := un_head (n : Int) 0 false he
  have hk := uh_of_zero h6
  refine ⟨hk, ?_, h1, h2⟩
  have := uhL_wlen hk
  omega

theorem placeOf_nodup {st : List Int} (hn : st.Nodup) {k : Nat} {x : Int} (h : st[k]? = some x) : placeOf st x = (k : Int) := by
  have hm := List.mem_of_getElem? h
  have hi := List.idxOf_lt_length_iff.2 hm
  have hg := List.getElem_idxOf hi
  rw [placeOf, if_pos hm]
  have := (List.getElem?_inj hi hn).1 ((List.getElem?_eq_getElem hi).trans (by rw [hg, h]))
  omega

theorem packE_num {n : Int} (h1 : -4611686018427387904 ≤ n) (h2 : n ≤ 4611686018427387903) : packE false n = 0 := by
  simp only [packE, Bool.false_eq_true, if_false]; rw [if_neg (by omega)]
theorem packE_ref {n : Int} (h1 : 0 ≤ n) (h2 : n < 256) : packE true n = 0 := by
  simp only [packE, if_true]; rw [if_neg (by omega)]
theorem num_of_packE {n : Int} (h : packE false n = 0) : -4611686018427387904 ≤ n ∧ n ≤ 4611686018427387903 := by
  simp only [packE, Bool.false_eq_true, if_false] at h
  split at h <;> omega

/-- One value, there and back. -/
theorem value_back {L : List (List V)} (ht : tot L ≤ 256) {v : V} (hr : v.1 = true → 0 ≤ v.2 ∧ v.2 < L.length) (hn : v.1 = false → -4611686018427387904 ≤ v.2 ∧ v.2 ≤ 4611686018427387903) :
    okW (stF 0 L) (packV (stF 0 L) v) = true ∧ valW (stF 0 L) (packV (stF 0 L) v) = v ∧ 0 ≤ packV (stF 0 L) v ∧ packV (stF 0 L) v < 18446744073709551616 := by
  obtain ⟨r, n⟩ := v
  cases r
  · have h := hn rfl
    rw [packV_num]
    obtain ⟨h1, h2, h3, h4, h5⟩ := packE_eq false n (packE_num h.1 h.2)
    exact ⟨by simp [okW, h3, h5], by simp [valW, h3, h4], h1, h2⟩
  · have h := hr rfl
    obtain ⟨m, rfl⟩ := Int.eq_ofNat_of_zero_le h.1
    have hm : m < L.length := by have := h.2; simp at this; omega
    rw [packV_ref (by omega) (by simpa using hm)]
    simp only [Int.toNat_natCast]
    have hg := stF_get L 0 m hm
    rw [Nat.zero_add] at hg
    have hlt : tot (L.take m) < 256 := by
      have h1 := tot_take_succ hm
      have h2 := tot_take_le L (m + 1)
      omega
    obtain ⟨h1, h2, h3, h4, h5⟩ := packE_eq true ((tot (L.take m) : Nat) : Int) (packE_ref (by omega) (by omega))
    have hmem := List.mem_of_getElem? hg
    refine ⟨by simp [okW, h3, h5, h4, hmem], ?_, h1, h2⟩
    simp only [valW, h3, h4, if_true]
    rw [placeOf_nodup (stF_nodup L 0) hg]

theorem lens_fields (st : List Int) (L : List (List V)) : (layFields st L).map List.length = L.map List.length := by
  unfold layFields; rw [List.map_map]; apply List.map_congr_left; intro l _; simp

theorem map_back {L : List (List V)} (ht : tot L ≤ 256) {l : List V} (hr : ∀ v ∈ l, v.1 = true → 0 ≤ v.2 ∧ v.2 < L.length) (hn : NumOk l) :
    (l.map (packV (stF 0 L))).map (valW (stF 0 L)) = l ∧ (∀ x ∈ l.map (packV (stF 0 L)), okW (stF 0 L) x = true) ∧ U64 (l.map (packV (stF 0 L))) := by
  refine ⟨?_, ?_, ?_⟩
  · rw [List.map_map]
    conv => rhs; rw [← List.map_id l]
    apply List.map_congr_left
    intro v hv
    exact (value_back ht (hr v hv) (hn.num v hv)).2.1
  · intro x hx
    obtain ⟨v, hv, rfl⟩ := List.mem_map.1 hx
    exact (value_back ht (hr v hv) (hn.num v hv)).1
  · intro x hx
    obtain ⟨v, hv, rfl⟩ := List.mem_map.1 hx
    exact (value_back ht (hr v hv) (hn.num v hv)).2.2

theorem joinW_mem : ∀ (hs : List Int) (fs : List (List Int)) (x : Int), x ∈ joinW hs fs → x ∈ hs ∨ ∃ f ∈ fs, x ∈ f
  | h :: hs, f :: fs, x, hx => by
    simp only [joinW, List.mem_cons, List.mem_append] at hx
    rcases hx with rfl | hx | hx
    · exact .inl (by simp)
    · exact .inr ⟨f, by simp, hx⟩
    · rcases joinW_mem hs fs x hx with h1 | ⟨g, h1, h2⟩
      · exact .inl (by simp [h1])
      · exact .inr ⟨g, by simp [h1], h2⟩
  | [], _, x, hx => by simp [joinW] at hx
  | _ :: _, [], x, hx => by simp [joinW] at hx

/-- One word, there and back. -/
theorem word_back {st : List Int} (hn : st.Nodup) {x : Int} (h1 : 0 ≤ x) (h2 : x < 18446744073709551616) (h : okW st x = true) :
    packV st (valW st x) = x ∧ ((valW st x).1 = true → 0 ≤ (valW st x).2 ∧ (valW st x).2 < st.length) ∧ ((valW st x).1 = false → -4611686018427387904 ≤ (valW st x).2 ∧ (valW st x).2 ≤ 4611686018427387903) := by
  simp only [okW, Bool.and_eq_true, beq_iff_eq, Bool.or_eq_true, Bool.not_eq_true', decide_eq_true_eq] at h
  obtain ⟨he, ho⟩ := h
  obtain ⟨p1, p2⟩ := pack_un x h1 h2 he
  cases hr : unRef x
  · rw [hr] at p1 p2
    rw [valW_num hr, packV_num]
    exact ⟨p2, fun e => (by cases e), fun _ => num_of_packE p1⟩
  · rw [hr] at p2
    have hm := ho.resolve_left (by rw [hr]; simp)
    have hi := List.idxOf_lt_length_iff.2 hm
    have hg := List.getElem_idxOf hi
    rw [valW_ref hr]
    have hp : placeOf st (unNum x) = ((st.idxOf (unNum x) : Nat) : Int) := by rw [placeOf, if_pos hm]
    refine ⟨?_, fun _ => by rw [hp]; omega, fun e => by cases e⟩
    simp only [packV, if_true, hp, Int.toNat_natCast]
    rw [List.getD_eq_getElem?_getD, List.getElem?_eq_getElem hi, Option.getD_some, hg]
    exact p2

theorem lens_read (fs : List (List Int)) (rs : List Int) : (readG fs rs).objs.map List.length = fs.map List.length := by
  unfold readG; simp only; rw [List.map_map]; apply List.map_congr_left; intro l _; simp

theorem map_word_back {st l : List Int} (hn : st.Nodup) (hU : U64 l) (h : ∀ x ∈ l, okW st x = true) : (l.map (valW st)).map (packV st) = l := by
  rw [List.map_map]
  conv => rhs; rw [← List.map_id l]
  apply List.map_congr_left
  intro x hx
  exact (word_back hn (hU x hx).1 (hU x hx).2 (h x hx)).1

/-- What is read of an arena that may be. -/
theorem read_only {ws rs : List Int} {fs : List (List Int)} (hUW : U64 ws) (hUR : U64 rs) (hE : arenaE ws rs = 0) (hs : splitR ws = some fs) :
    (fs.length ≤ 24 → checkG (readG fs rs) = 0) ∧ layRoots (readG fs rs) = rs ∧ (layWords (readG fs rs)).length = ws.length ∧ ∀ i : Nat, (i : Int) ∈ stF 0 fs ∨ ws[i]? = (layWords (readG fs rs))[i]? := by
  have hsz : ws.length ≤ 256 ∧ rs.length ≤ 8 := by
    unfold arenaE at hE
    split at hE
    · omega
    · rename_i h; omega
  have hall : (rs ++ fs.flatten).all (okW (stF 0 fs)) = true := by
    unfold arenaE at hE
    rw [if_neg (by omega), hs] at hE
    simp only at hE
    split at hE
    · assumption
    · omega
  rw [List.all_eq_true] at hall
  have hokr : ∀ x ∈ rs, okW (stF 0 fs) x = true := fun x hx => hall x (List.mem_append.2 (.inl hx))
  have hokf : ∀ f ∈ fs, ∀ x ∈ f, okW (stF 0 fs) x = true := fun f hf x hx => hall x (List.mem_append.2 (.inr (List.mem_flatten.2 ⟨f, hf, hx⟩)))
  have hUf := u64_fields hs hUW
  have hnd := stF_nodup fs 0
  have hst : stF 0 (readG fs rs).objs = stF 0 fs := stF_same _ _ _ (lens_read fs rs)
  have hlf : layFields (stF 0 fs) (readG fs rs).objs = fs := by
    unfold layFields readG
    simp only
    rw [List.map_map]
    conv => rhs; rw [← List.map_id fs]
    apply List.map_congr_left
    intro f hf
    exact map_word_back hnd (hUf f hf) (hokf f hf)
  obtain ⟨hs', h1, h2, h3⟩ := split_join ws.length ws fs (Nat.le_refl _) hs
  have hhl : (layHeads (readG fs rs).objs).length = fs.length := by simp [layHeads, readG]
  have hlw : layWords (readG fs rs) = joinW (layHeads (readG fs rs).objs) fs := by unfold layWords; rw [hst, hlf]
  refine ⟨fun h24 => ?_, ?_, ?_, fun i => ?_⟩
  · have hlen : (readG fs rs).objs.length = fs.length := readG_len fs rs
    have hvals : ∀ v ∈ allV (readG fs rs), badV v (readG fs rs).objs.length = 0 := by
      intro v hv
      rw [hlen]
      have key : ∃ x, v = valW (stF 0 fs) x ∧ 0 ≤ x ∧ x < 18446744073709551616 ∧ okW (stF 0 fs) x = true := by
        unfold allV readG at hv
        rcases List.mem_append.1 hv with hv | hv
        · obtain ⟨x, hx, rfl⟩ := List.mem_map.1 hv
          exact ⟨x, rfl, (hUR x hx).1, (hUR x hx).2, hokr x hx⟩
        · obtain ⟨l, hl, hv⟩ := List.mem_flatten.1 hv
          obtain ⟨f, hf, rfl⟩ := List.mem_map.1 hl
          obtain ⟨x, hx, rfl⟩ := List.mem_map.1 hv
          exact ⟨x, rfl, (hUf f hf x hx).1, (hUf f hf x hx).2, hokf f hf x hx⟩
      obtain ⟨x, rfl, b1, b2, b3⟩ := key
      obtain ⟨_, w1, w2⟩ := word_back hnd b1 b2 b3
      unfold badV
      cases hr : (valW (stF 0 fs) x).1
      · have := w2 hr
        simp; omega
      · have := w1 hr
        rw [stF_len] at this
        simp; omega
    have hl : isLargeG (readG fs rs) = false := by
      unfold isLargeG
      rw [hlen, readG_rlen]
      simp only [Bool.or_eq_false_iff, decide_eq_false_iff_not, List.any_eq_false, decide_eq_true_eq]
      refine ⟨⟨by omega, by omega⟩, ?_⟩
      intro l hl
      unfold readG at hl
      obtain ⟨f, hf, rfl⟩ := List.mem_map.1 hl
      have := h3 f hf
      simp; omega
    unfold checkG
    rw [hl]
    have a2 : (allV (readG fs rs)).any (fun v => badV v (readG fs rs).objs.length == 2) = false := by
      rw [List.any_eq_false]; intro v hv; rw [hvals v hv]; simp
    have a3 : (allV (readG fs rs)).any (fun v => badV v (readG fs rs).objs.length == 3) = false := by
      rw [List.any_eq_false]; intro v hv; rw [hvals v hv]; simp
    rw [a2, a3]; rfl
  · unfold layRoots
    rw [hst]
    exact map_word_back hnd hUR hokr
  · rw [hlw, joinW_len _ _ hhl, ← (splitR_st hs).1]
  · rw [hlw]
    have := join_same hs' (layHeads (readG fs rs).objs) fs 0 i h1 hhl
    rw [Nat.zero_add, ← h2] at this
    exact this

end Go.Proofs.Ytngjakeofhmohaa

/- Plain: an arena as headers and fields; marks. -/
namespace Go.Proofs.Ytngjakeofhmohaa
set_option linter.unusedSimpArgs false
set_option linter.unusedVariables false
open Go.RowKit

/-- A header's word, with this mark. -/
def reh (b : Bool) (x : Int) : Int := headW (uhL x) b (uhA x)

theorem headE_un (x : Int) : headE (uhL x) (uhA x) = 0 := by
  have h : headOk (uhL x) (uhA x) = true := by
    unfold headOk uhL uhA
    split
    · rename_i h
      simp [unheadOk] at h
      simp
      omega
    · simp
  simp [headE, h]

theorem reh_ok (b : Bool) (x : Int) : unheadOk (reh b x) = true ∧ uhL (reh b x) = uhL x ∧ uhM (reh b x) = b ∧ uhA (reh b x) = uhA x ∧ 0 ≤ reh b x ∧ reh b x < 18446744073709551616 := by
  obtain ⟨h1, h2, h3, h4, h5, h6⟩ := un_head (uhL x) (uhA x) b (headE_un x)
  exact ⟨uh_of_zero h6, h3, h4, h5, h1, h2⟩

theorem reh_reh (b c : Bool) (x : Int) : reh b (reh c x) = reh b x := by
  have := reh_ok c x
  unfold reh at *
  rw [this.2.1, this.2.2.2.1]

theorem reh_self {x : Int} (h1 : 0 ≤ x) (h2 : x < 18446744073709551616) (h : unheadOk x = true) : reh (uhM x) x = x :=
  (head_un x h1 h2 (by simp [uhE, h])).2

theorem reh_wlen {b : Bool} {x : Int} (h : unheadOk x = true) : wlen (reh b x) = wlen x := by
  have h1 := reh_ok b x
  have h2 := uhL_wlen h1.1
  have h3 := uhL_wlen h
  have := h1.2.1
  omega

/-- Headers and fields that fit. -/
structure Fit (hs : List Int) (fs : List (List Int)) : Prop where
  len : hs.length = fs.length
  ok : ∀ (k : Nat) (x : Int) (f : List Int), hs[k]? = some x → fs[k]? = some f → unheadOk x = true ∧ wlen x = f.length ∧ 0 ≤ x ∧ x < 18446744073709551616

theorem split_fit : ∀ (n : Nat) (ws : List Int) (fs : List (List Int)), ws.length ≤ n → U64 ws → splitR ws = some fs → ∃ hs, Fit hs fs ∧ ws = joinW hs fs
  | n, [], fs, _, _, h => by
    rw [splitR_nil] at h
    injection h with h
    subst h
    exact ⟨[], ⟨rfl, by simp⟩, rfl⟩
  | 0, x :: r, fs, hn, _, h => by simp at hn
  | n + 1, x :: r, fs, hn, hU, h => by
    rw [splitR_cons] at h
    split at h
    · rename_i hc
      cases hs : splitR (r.drop (wlen x)) with
      | none => rw [hs] at h; simp at h
      | some gs =>
        rw [hs] at h
        simp only [Option.map_some, Option.some.injEq] at h
        subst h
        obtain ⟨hs', h1, h2⟩ := split_fit n _ gs (by simp at hn ⊢; omega) (U64.drop (fun y hy => hU y (by simp [hy])) _) hs
        refine ⟨x :: hs', ⟨by simp [h1.len], ?_⟩, ?_⟩
        · intro k y f hy hf
          cases k with
          | zero =>
            simp at hy hf
            subst hy hf
            have := hU x (by simp)
            exact ⟨hc.1, by rw [List.length_take]; omega, this.1, this.2⟩
          | succ k => exact h1.ok k y f (by simpa using hy) (by simpa using hf)
        · simp only [joinW, ← h2, List.take_append_drop]
    · cases h

theorem joinW_get : ∀ (hs : List Int) (fs : List (List Int)) (k : Nat), hs.length = fs.length → k < fs.length → (joinW hs fs)[tot (fs.take k)]? = hs[k]?
  | x :: hs, f :: fs, 0, _, _ => by simp [joinW, tot]
  | x :: hs, f :: fs, k + 1, h, hk => by
    have ih := joinW_get hs fs k (by simpa using h) (by simpa using hk)
    rw [List.take_succ_cons, tot_cons, show f.length + 1 + tot (fs.take k) = (f.length + tot (fs.take k)) + 1 from by omega]
    simp only [joinW, List.getElem?_cons_succ]
    rw [List.getElem?_append_right (by omega), show f.length + tot (fs.take k) - f.length = tot (fs.take k) from by omega]
    exact ih
  | _, [], k, _, hk => by simp at hk
  | [], f :: fs, k, h, _ => by simp at h

theorem joinW_set : ∀ (hs : List Int) (fs : List (List Int)) (k : Nat) (y : Int), hs.length = fs.length → k < fs.length → (joinW hs fs).set (tot (fs.take k)) y = joinW (hs.set k y) fs
  | x :: hs, f :: fs, 0, y, _, _ => by simp [joinW, tot]
  | x :: hs, f :: fs, k + 1, y, h, hk => by
    have ih := joinW_set hs fs k y (by simpa using h) (by simpa using hk)
    rw [List.take_succ_cons, tot_cons, show f.length + 1 + tot (fs.take k) = (f.length + tot (fs.take k)) + 1 from by omega]
    simp only [joinW, List.set_cons_succ]
    rw [List.set_append_right _ _ (by omega), show f.length + tot (fs.take k) - f.length = tot (fs.take k) from by omega, ih]
  | _, [], k, y, _, hk => by simp at hk
  | [], f :: fs, k, y, h, _ => by simp at h

theorem joinW_fields : ∀ (hs : List Int) (fs : List (List Int)) (k : Nat) (f : List Int), hs.length = fs.length → fs[k]? = some f → ((joinW hs fs).drop (tot (fs.take k) + 1)).take f.length = f
  | x :: hs, f :: fs, 0, g, _, hk => by
    simp at hk
    subst hk
    simp [joinW, tot]
  | x :: hs, f :: fs, k + 1, g, h, hk => by
    have ih := joinW_fields hs fs k g (by simpa using h) (by simpa using hk)
    rw [List.take_succ_cons, tot_cons, show f.length + 1 + tot (fs.take k) + 1 = (f.length + (tot (fs.take k) + 1)) + 1 from by omega]
    simp only [joinW, List.drop_succ_cons]
    rw [List.drop_append, List.drop_of_length_le (by omega), List.nil_append, show f.length + (tot (fs.take k) + 1) - f.length = tot (fs.take k) + 1 from by omega]
    exact ih
  | _, [], k, g, _, hk => by simp at hk
  | [], f :: fs, k, g, h, _ => by simp at h

/-- Headers, with these marks. -/
def mkH (hs : List Int) (p : Nat → Bool) : List Int := hs.mapIdx fun i x => reh (p i) x

theorem mkH_len (hs : List Int) (p : Nat → Bool) : (mkH hs p).length = hs.length := by simp [mkH]
theorem mkH_get (hs : List Int) (p : Nat → Bool) (k : Nat) : (mkH hs p)[k]? = (hs[k]?).map (reh (p k)) := by simp [mkH, List.getElem?_mapIdx]

/-- One mark more. -/
def upd (p : Nat → Bool) (i : Nat) : Nat → Bool := fun k => k == i || p k

theorem mkH_set {hs : List Int} {p : Nat → Bool} {i : Nat} {x : Int} (h : hs[i]? = some x) : (mkH hs p).set i (reh true x) = mkH hs (upd p i) := by
  apply List.ext_getElem?
  intro k
  rw [List.getElem?_set, mkH_get, mkH_get, mkH_len]
  have hi : i < hs.length := (List.getElem?_eq_some_iff.1 h).1
  by_cases e : i = k
  · subst e
    rw [if_pos rfl, if_pos hi, h]
    simp [upd]
  · rw [if_neg e]
    have : upd p i k = p k := by simp [upd]; omega
    rw [this]

/-- The first k headers without marks. -/
def mkF (hs : List Int) (n : Nat) : List Int := hs.mapIdx fun i x => if i < n then reh false x else x

theorem mkF_len (hs : List Int) (n : Nat) : (mkF hs n).length = hs.length := by simp [mkF]
theorem mkF_get (hs : List Int) (n k : Nat) : (mkF hs n)[k]? = (hs[k]?).map (fun x => if k < n then reh false x else x) := by simp [mkF, List.getElem?_mapIdx]
theorem mkF_zero (hs : List Int) : mkF hs 0 = hs := by
  apply List.ext_getElem?
  intro k
  rw [mkF_get]
  cases hs[k]? <;> simp
theorem mkF_all (hs : List Int) (n : Nat) (h : hs.length ≤ n) : mkF hs n = mkH hs (fun _ => false) := by
  apply List.ext_getElem?
  intro k
  rw [mkF_get, mkH_get]
  cases e : hs[k]? with
  | none => rfl
  | some x =>
    have := (List.getElem?_eq_some_iff.1 e).1
    simp only [Option.map_some]
    rw [if_pos (by omega)]
theorem mkF_set {hs : List Int} {i : Nat} {x : Int} (h : hs[i]? = some x) : (mkF hs i).set i (reh false x) = mkF hs (i + 1) := by
  apply List.ext_getElem?
  intro k
  rw [List.getElem?_set, mkF_get, mkF_get, mkF_len]
  have hi : i < hs.length := (List.getElem?_eq_some_iff.1 h).1
  by_cases e : i = k
  · subst e
    rw [if_pos rfl, if_pos hi, h]
    simp
  · rw [if_neg e]
    cases hs[k]? with
    | none => rfl
    | some y =>
      simp only [Option.map_some]
      congr 1
      by_cases hk : k < i
      · rw [if_pos hk, if_pos (by omega)]
      · rw [if_neg hk, if_neg (by omega)]

theorem fit_mkH {hs : List Int} {fs : List (List Int)} (h : Fit hs fs) (p : Nat → Bool) : Fit (mkH hs p) fs := by
  refine ⟨by rw [mkH_len]; exact h.len, fun k x f hx hf => ?_⟩
  rw [mkH_get] at hx
  cases e : hs[k]? with
  | none => rw [e] at hx; cases hx
  | some y =>
    rw [e] at hx
    simp at hx
    subst hx
    have h1 := h.ok k y f e hf
    have h2 := reh_ok (p k) y
    exact ⟨h2.1, by rw [reh_wlen h1.1]; exact h1.2.1, h2.2.2.2.2.1, h2.2.2.2.2.2⟩

theorem fit_mkF {hs : List Int} {fs : List (List Int)} (h : Fit hs fs) (n : Nat) : Fit (mkF hs n) fs := by
  refine ⟨by rw [mkF_len]; exact h.len, fun k x f hx hf => ?_⟩
  rw [mkF_get] at hx
  cases e : hs[k]? with
  | none => rw [e] at hx; cases hx
  | some y =>
    rw [e] at hx
    simp only [Option.map_some, Option.some.injEq] at hx
    have h1 := h.ok k y f e hf
    split at hx
    · subst hx
      have h2 := reh_ok false y
      exact ⟨h2.1, by rw [reh_wlen h1.1]; exact h1.2.1, h2.2.2.2.2.1, h2.2.2.2.2.2⟩
    · subst hx
      exact h1

theorem fit_split {hs : List Int} {fs : List (List Int)} (h : Fit hs fs) : splitR (joinW hs fs) = some fs :=
  join_split hs fs h.len fun k x f hx hf => ⟨(h.ok k x f hx hf).1, (h.ok k x f hx hf).2.1⟩

/-- Words that refer to object j. -/
def To (fs : List (List Int)) (l : List Int) (j : Nat) : Prop := ∃ x ∈ l, unRef x = true ∧ (stF 0 fs)[j]? = some (unNum x)

/-- What can be come to. -/
def Rch (fs : List (List Int)) (rs : List Int) (j : Nat) : Prop :=
  ∀ P : Nat → Prop, (∀ j, To fs rs j → P j) → (∀ i f j, fs[i]? = some f → P i → To fs f j → P j) → P j

theorem rch_root {fs : List (List Int)} {rs : List Int} {j : Nat} (h : To fs rs j) : Rch fs rs j := fun P h1 _ => h1 j h
theorem rch_step {fs : List (List Int)} {rs : List Int} {i j : Nat} {f : List Int} (hi : Rch fs rs i) (hf : fs[i]? = some f) (h : To fs f j) : Rch fs rs j :=
  fun P h1 h2 => h2 i f j hf (hi P h1 h2) h

/-- An arena that may be. -/
structure Arn (hs : List Int) (fs : List (List Int)) (rs : List Int) : Prop where
  fit : Fit hs fs
  n256 : tot fs ≤ 256
  n8 : rs.length ≤ 8
  ur : U64 rs
  uf : ∀ f ∈ fs, U64 f
  okr : ∀ x ∈ rs, okW (stF 0 fs) x = true
  okf : ∀ f ∈ fs, ∀ x ∈ f, okW (stF 0 fs) x = true

theorem arn_of {ws rs : List Int} (hUW : U64 ws) (hUR : U64 rs) (hE : arenaE ws rs = 0) : ∃ hs fs, Arn hs fs rs ∧ ws = joinW hs fs := by
  have hsz : ws.length ≤ 256 ∧ rs.length ≤ 8 := by
    unfold arenaE at hE
    split at hE
    · omega
    · rename_i h; omega
  cases hs : splitR ws with
  | none =>
    unfold arenaE at hE
    rw [if_neg (by omega), hs] at hE
    simp at hE
  | some fs =>
    have hall : (rs ++ fs.flatten).all (okW (stF 0 fs)) = true := by
      unfold arenaE at hE
      rw [if_neg (by omega), hs] at hE
      simp only at hE
      split at hE
      · assumption
      · omega
    rw [List.all_eq_true] at hall
    obtain ⟨h, h1, h2⟩ := split_fit ws.length ws fs (Nat.le_refl _) hUW hs
    exact ⟨h, fs, ⟨h1, by have := (splitR_st hs).1; omega, hsz.2, hUR, u64_fields hs hUW, fun x hx => hall x (List.mem_append.2 (.inl hx)), fun f hf x hx => hall x (List.mem_append.2 (.inr (List.mem_flatten.2 ⟨f, hf, hx⟩)))⟩, h2⟩

theorem joinW_u64 {hs : List Int} {fs : List (List Int)} {rs : List Int} (h : Arn hs fs rs) {hs' : List Int} (h' : Fit hs' fs) : U64 (joinW hs' fs) := by
  intro x hx
  rcases joinW_mem _ _ x hx with hx | ⟨f, hf, hx⟩
  · obtain ⟨k, hk⟩ := List.getElem?_of_mem hx
    have hlt : k < fs.length := by have := (List.getElem?_eq_some_iff.1 hk).1; have := h'.len; omega
    exact (h'.ok k x _ hk (List.getElem?_eq_getElem hlt)).2.2
  · exact h.uf f hf x hx

theorem Arn.same {hs : List Int} {fs : List (List Int)} {rs : List Int} (h : Arn hs fs rs) {hs' : List Int} (h' : Fit hs' fs) : Arn hs' fs rs := ⟨h', h.n256, h.n8, h.ur, h.uf, h.okr, h.okf⟩

theorem Arn.check {hs : List Int} {fs : List (List Int)} {rs : List Int} (h : Arn hs fs rs) : arenaE (joinW hs fs) rs = 0 := by
  refine arenaE_ok (by rw [joinW_len _ _ h.fit.len]; exact h.n256) h.n8 (fit_split h.fit) ?_
  rw [List.all_eq_true]
  intro x hx
  rcases List.mem_append.1 hx with hx | hx
  · exact h.okr x hx
  · obtain ⟨f, hf, hx⟩ := List.mem_flatten.1 hx
    exact h.okf f hf x hx

theorem ok_ref {st : List Int} {x : Int} (h : okW st x = true) : unErr x = 0 ∧ (unRef x = true → ∃ j : Nat, st[j]? = some (unNum x)) := by
  simp only [okW, Bool.and_eq_true, beq_iff_eq, Bool.or_eq_true, Bool.not_eq_true', decide_eq_true_eq] at h
  refine ⟨h.1, fun hr => ?_⟩
  rcases h.2 with h2 | h2
  · rw [hr] at h2; cases h2
  · exact List.getElem?_of_mem h2

theorem st_inj {fs : List (List Int)} {i j : Nat} {x : Int} (h1 : (stF 0 fs)[i]? = some x) (h2 : (stF 0 fs)[j]? = some x) : i = j :=
  (List.getElem?_inj (List.getElem?_eq_some_iff.1 h1).1 (stF_nodup fs 0)).1 (h1.trans h2.symm)

/-- How many are not marked. -/
def unm (n : Nat) (p : Nat → Bool) : Nat := ((List.range n).filter (fun (i : Nat) => !p i)).length

theorem filter_upd (p : Nat → Bool) (i : Nat) : ∀ (l : List Nat), l.Nodup → i ∈ l → p i = false → (l.filter fun k => !upd p i k).length + 1 = (l.filter fun k => !p k).length
  | [], _, h, _ => by simp at h
  | a :: l, hn, h, hp => by
    rw [List.nodup_cons] at hn
    by_cases e : a = i
    · subst e
      have h1 : (l.filter fun k => !upd p a k) = l.filter fun k => !p k := by
        apply List.filter_congr
        intro k hk
        have : k ≠ a := fun e => hn.1 (e ▸ hk)
        simp [upd, this]
      simp [List.filter_cons, hp, upd]
      have h2 : (l.filter fun k => !(k == a) && !p k) = l.filter fun k => !p k := by
        apply List.filter_congr
        intro k hk
        have : k ≠ a := fun e => hn.1 (e ▸ hk)
        simp [this]
      rw [h2]
    · have hm : i ∈ l := by simpa [Ne.symm e] using h
      have ih := filter_upd p i l hn.2 hm hp
      have ea : upd p i a = p a := by simp [upd, e]
      simp only [List.filter_cons, ea]
      split
      · simp only [List.length_cons]; omega
      · exact ih

theorem unm_upd {n : Nat} {p : Nat → Bool} {i : Nat} (hi : i < n) (hp : p i = false) : unm n (upd p i) + 1 = unm n p :=
  filter_upd p i _ List.nodup_range (List.mem_range.2 hi) hp

theorem upd_le {p : Nat → Bool} {i k : Nat} (h : p k = true) : upd p i k = true := by simp [upd, h]
theorem upd_self (p : Nat → Bool) (i : Nat) : upd p i i = true := by simp [upd]
theorem upd_inv {p : Nat → Bool} {i k : Nat} (h : upd p i k = true) : k = i ∨ p k = true := by simpa [upd] using h

/-- Is all that an object refers to marked? -/
def Cl (fs : List (List Int)) (p : Nat → Bool) (i : Nat) : Prop := ∀ f j, fs[i]? = some f → To fs f j → p j = true

theorem Cl.upd {fs : List (List Int)} {p : Nat → Bool} {i k : Nat} (h : Cl fs p k) : Cl fs (upd p i) k := fun f j hf ht => upd_le (h f j hf ht)

/-- All is marked that can be come to. -/
theorem marked_all {fs : List (List Int)} {rs : List Int} {p : Nat → Bool} (h1 : ∀ j, p j = true → Rch fs rs j) (h2 : ∀ j, To fs rs j → p j = true) (h3 : ∀ i, p i = true → Cl fs p i) (j : Nat) : p j = true ↔ Rch fs rs j :=
  ⟨h1 j, fun h => h (fun j => p j = true) h2 (fun i f j hf hi ht => h3 i hi f j hf ht)⟩

end Go.Proofs.Ytngjakeofhmohaa

/- Walks: lists of numbers: Ints, rising, within, inside. -/
namespace Go.Proofs.Ytngjakeofhmohaa
set_option linter.unusedSimpArgs false
set_option linter.unusedVariables false
open Go.RowKit

set_option maxRecDepth 100000 in
set_option maxHeartbeats 1000000 in
theorem ints_eq_c (a1 a2 : Option Addr) (c1 c2 : Nat) (l1 l2 : List Int) (B : Nat) (w : World) (h1 : Ints B w a1 l1) (h2 : Ints B w a2 l2) (hB : B ≤ w.heap.size) :
    Calls Try.prog 10 #[.slice a1 l1.length c1, .slice a2 l2.length c2] w fun e w' => e = .returned (.bool (decide (l1 = l2))) ∧ Below w.heap.size w w' := by
  have hl1 := h1.1
  have hl2 := h2.1
  by_cases hl : l1.length = l2.length
  · have d1 : ((l1.length : Int) != (l2.length : Int)) = false := by simp [hl]
    have d2 : ((l2.length : Int) != (l2.length : Int)) = false := by simp
    rw [hl]
    have Hl := hide hl
    have hle : l1.length ≤ l2.length := by omega
    have hge : l2.length ≤ l1.length := by omega
    clear hl
    go_enter Try.func10, Try.ntmps10
    go_wp2
    go_loopw [5] (fun i wr => ∃ k : Nat, k ≤ l2.length ∧ i = .int .i64 k ∧ Hid (l1.take k = l2.take k) ∧ Below w.heap.size w wr) (fun i _ => l2.length - (intOf i).toNat)
    case atStart => exact ⟨0, Nat.zero_le _, rfl, by show l1.take 0 = l2.take 0; simp, Below.refl _ _⟩
    case round =>
      obtain ⟨k, hk, rfl, Heq, hb⟩ := hrel
      by_cases hlt : k < l2.length
      · have hlt1 : k < l1.length := by omega
        obtain ⟨b1, o1, rfl, hbB1, hx1⟩ := (h1.below (hb.mono hB)).at hlt1
        obtain ⟨b2, o2, rfl, hbB2, hx2⟩ := (h2.below (hb.mono hB)).at hlt
        have hltI : (k : Int) < (l2.length : Int) := by omega
        have HT1 := hide (List.take_succ_eq_append_getElem hlt1)
        have HT2 := hide (List.take_succ_eq_append_getElem hlt)
        have HN : Hid (l1 = l2 → l1[k] = l2[k]) := by intro e; subst e; rfl
        generalize l1[k] = x at *
        generalize l2[k] = y at *
        by_cases hxy : x = y
        · have d : (x != y) = false := by simpa using hxy
          have Hxy := hide hxy
          clear hxy
          go_wp2
          go_still Try.mixed
          go_wp2
          go_roundw
          case rel => exact ⟨k + 1, by omega, by go_num, by show l1.take (k + 1) = _; rw [unhide HT1, unhide HT2, unhide Heq, unhide Hxy], hb.trans (Below.refl _ _).drew⟩
          case measure => simp [intOf]; omega
        · have d : (x != y) = true := by simpa using hxy
          have Hxy := hide hxy
          clear hxy
          go_wp2
          go_still Try.mixed
          go_wp2
          go_ret
          exact ⟨ret_bool (Eq.symm (decide_eq_false (fun e => unhide Hxy (unhide HN e)))), hb.trans (Below.refl _ _).drew⟩
      · obtain rfl : k = l2.length := by omega
        have Hfin : Hid (l1 = l2) := by
          have := unhide Heq
          rw [List.take_length, List.take_of_length_le hle] at this
          exact this
        go_wp2
        go_ret
        exact ⟨ret_bool (Eq.symm (decide_eq_true (unhide Hfin))), hb⟩
  · have d1 : ((l1.length : Int) != (l2.length : Int)) = true := by simp; omega
    go_enter Try.func10, Try.ntmps10
    go_wp2
    go_ret
    exact ⟨ret_bool (Eq.symm (decide_eq_false (fun e => hl (by rw [e])))), Below.refl _ _⟩

/-- A list that rises, strictly. -/
def risingL (l : List Int) : Bool := (List.range (l.length - 1)).all fun k => decide (l.getD k 0 < l.getD (k + 1) 0)

end Go.Proofs.Ytngjakeofhmohaa

/- Walks. -/
namespace Go.Proofs.Ytngjakeofhmohaa
set_option linter.unusedSimpArgs false
set_option linter.unusedVariables false
open Go.RowKit

set_option maxHeartbeats 400000 in
theorem refers_c (a : Option Addr) (cap : Nat) (l : List V) (j : Int) (B : Nat) (w : World) (hl : Vals B w a l) (hB : B ≤ w.heap.size) :
    Calls Try.prog 54 #[.slice a l.length cap, .int .i64 j] w fun e w' => e = .returned (.bool (refers l j)) ∧ Below B w w' := by
  have hlen := hl.1
  go_enter Try.func54, Try.ntmps54
  go_wp2
  go_loopw [9] (fun i wr => ∃ k : Nat, k ≤ l.length ∧ i = .int .i64 k ∧ refers (l.take k) j = false ∧ Below B w wr) (fun i _ => l.length - (intOf i).toNat)
  case atStart => exact ⟨0, Nat.zero_le _, rfl, by simp [refers], Below.refl _ _⟩
  case round =>
    obtain ⟨k, hk, rfl, hno, hb⟩ := hrel
    by_cases hlt : k < l.length
    · obtain ⟨b, off, r, n, rfl, hbB, hc1, hc2, Hv⟩ := (hl.below hb).at hlt
      have HT := hide (refers_take (j := j) hlt Hv.out)
      cases r
      · go_wp2
        go_roundw
        case rel => exact ⟨k + 1, by omega, by go_num, by rw [unhide HT, hno]; rfl, hb.alloc (by have := hb.size; omega) _⟩
        case measure => simp [intOf]; omega
      · by_cases hj : n = j
        · have hj' : (n == j) = true := by simp [hj]
          go_wp2
          go_ret
          exact ⟨ret_bool (refers_of_take (k := k + 1) (by rw [unhide HT, hno]; simpa using hj)).symm, hb.alloc (by have := hb.size; omega) _⟩
        · have hj' : (n == j) = false := by simp [hj]
          go_wp2
          go_roundw
          case rel => exact ⟨k + 1, by omega, by go_num, by rw [unhide HT, hno]; simpa using hj, hb.alloc (by have := hb.size; omega) _⟩
          case measure => simp [intOf]; omega
    · go_wp2
      go_ret
      exact ⟨ret_bool (by rw [List.take_of_length_le (by omega)] at hno; exact hno.symm), hb⟩

end Go.Proofs.Ytngjakeofhmohaa

/- How far objects are: plain facts. -/
namespace Go.Proofs.Ytngjakeofhmohaa
set_option linter.unusedSimpArgs false
set_option linter.unusedVariables false

/-- The best of what stands before the first k. -/
def bestK (D : Nat → Int) (R : Nat → Bool) : Nat → Int
  | 0 => -1
  | i + 1 => if 0 ≤ D i ∧ R i = true ∧ (bestK D R i < 0 ∨ D i + 1 < bestK D R i) then D i + 1 else bestK D R i

theorem bestK_spec (D : Nat → Int) (R : Nat → Bool) : ∀ k, (bestK D R k = -1 ∧ ∀ i, i < k → ¬ (0 ≤ D i ∧ R i = true)) ∨ (∃ i, i < k ∧ 0 ≤ D i ∧ R i = true ∧ bestK D R k = D i + 1 ∧ ∀ i', i' < k → 0 ≤ D i' → R i' = true → D i ≤ D i')
  | 0 => .inl ⟨rfl, fun i h => by omega⟩
  | k + 1 => by
    have ih := bestK_spec D R k
    by_cases hc : 0 ≤ D k ∧ R k = true
    · rcases ih with ⟨h1, h2⟩ | ⟨i, h1, h2, h3, h4, h5⟩
      · refine .inr ⟨k, by omega, hc.1, hc.2, ?_, ?_⟩
        · show (if _ then _ else _) = _
          rw [if_pos ⟨hc.1, hc.2, .inl (by omega)⟩]
        · intro i' hi' h0 hr
          by_cases e : i' = k
          · subst e; omega
          · exact absurd ⟨h0, hr⟩ (h2 i' (by omega))
      · by_cases hb : D k + 1 < bestK D R k
        · refine .inr ⟨k, by omega, hc.1, hc.2, ?_, ?_⟩
          · show (if _ then _ else _) = _
            rw [if_pos ⟨hc.1, hc.2, .inr hb⟩]
          · intro i' hi' h0 hr
            by_cases e : i' = k
            · subst e; omega
            · have := h5 i' (by omega) h0 hr; omega
        · refine .inr ⟨i, by omega, h2, h3, ?_, ?_⟩
          · show (if _ then _ else _) = _
            rw [if_neg (by rintro ⟨_, _, h | h⟩ <;> omega)]; exact h4
          · intro i' hi' h0 hr
            by_cases e : i' = k
            · subst e; omega
            · exact h5 i' (by omega) h0 hr
    · have e : bestK D R (k + 1) = bestK D R k := by
        show (if _ then _ else _) = _
        rw [if_neg (fun h => hc ⟨h.1, h.2.1⟩)]
      rw [e]
      rcases ih with ⟨h1, h2⟩ | ⟨i, h1, h2, h3, h4, h5⟩
      · refine .inl ⟨h1, fun i hi => ?_⟩
        by_cases e : i = k
        · subst e; exact hc
        · exact h2 i (by omega)
      · refine .inr ⟨i, by omega, h2, h3, h4, fun i' hi' h0 hr => ?_⟩
        by_cases e : i' = k
        · subst e; exact absurd ⟨h0, hr⟩ hc
        · exact h5 i' (by omega) h0 hr

theorem idx_of {l : List Int} (h : l.Nodup) {m : Nat} {o : Int} (hm : l[m]? = some o) : l.idxOf o = m := by
  obtain ⟨hlt, rfl⟩ := List.getElem?_eq_some_iff.1 hm
  have h1 : l.idxOf l[m] < l.length := List.idxOf_lt_length_iff.2 (List.getElem_mem hlt)
  have h2 := List.getElem_idxOf h1
  rw [List.nodup_iff_pairwise_ne, List.pairwise_iff_getElem] at h
  rcases Nat.lt_trichotomy (l.idxOf l[m]) m with h3 | h3 | h3
  · exact absurd h2 (h _ _ h1 hlt h3)
  · exact h3
  · exact absurd h2.symm (h _ _ hlt h1 h3)

theorem distAt_of {g : Gr} (h : Good g) {m : Nat} {o d : Int} (hm : (orderOf g)[m]? = some o) (hd : (distOf g)[m]? = some d) : distAt g o = d := by
  unfold distAt
  rw [if_pos (List.mem_of_getElem? hm), idx_of (order_nodup h) hm, hd]; rfl

theorem distAt_mem {g : Gr} (h : Good g) {o : Int} (ho : o ∈ orderOf g) : ∃ (m : Nat) (d : Int), (orderOf g)[m]? = some o ∧ (distOf g)[m]? = some d ∧ distAt g o = d ∧ 0 ≤ d ∧ d ≤ m := by
  obtain ⟨m, hm, rfl⟩ := List.getElem_of_mem ho
  have hok := searchN_ok h g.objs.length
  have hm2 : m < (distOf g).length := by rw [show (distOf g).length = (orderOf g).length from hok.len]; exact hm
  have h1 := List.getElem?_eq_getElem hm
  have h2 := List.getElem?_eq_getElem hm2
  have h3 := hok.pos m _ h2
  exact ⟨m, _, h1, h2, distAt_of h h1 h2, h3.1, h3.2⟩

theorem distAt_nonneg {g : Gr} (h : Good g) (o : Int) : 0 ≤ distAt g o ↔ o ∈ orderOf g := by
  constructor
  · intro h0
    unfold distAt at h0
    split at h0
    · assumption
    · omega
  · intro ho
    obtain ⟨_, d, _, _, e, h0, _⟩ := distAt_mem h ho
    omega

theorem distAt_bounds {g : Gr} (h : Good g) (o : Int) : -1 ≤ distAt g o ∧ distAt g o ≤ 256 := by
  by_cases ho : o ∈ orderOf g
  · obtain ⟨m, d, h1, _, e, h0, h2⟩ := distAt_mem h ho
    have := (List.getElem?_eq_some_iff.1 h1).1
    have := (searchN_ok h g.objs.length).le
    have := h.n24
    unfold orderOf at *
    omega
  · unfold distAt
    rw [if_neg ho]; omega

/-- An object is as far as one more than the nearest that refers to it. -/
theorem steps_eq {g : Gr} (h : Good g) {j : Nat} (hj : j < g.objs.length) :
    distAt g (j : Int) = if refers g.roots (j : Int) = true then 0 else bestK (fun i => distAt g (i : Int)) (fun i => refers (fieldsOf g (i : Int)) (j : Int)) g.objs.length := by
  have hB := bfs g g.objs.length
  have hR := refers_iff h.refsRoots (j : Int)
  have hF : ∀ (i : Nat), i < g.objs.length → (refers (fieldsOf g (i : Int)) (j : Int) = true ↔ (j : Int) ∈ refsL (fieldsOf g (i : Int))) := fun i hi => refers_iff (h.refsObjs (fieldsOf_mem (by omega) (by omega))) _
  have hlen := (searchN_ok h g.objs.length).le
  by_cases hjo : (j : Int) ∈ orderOf g
  · obtain ⟨p, dp, hp, hd, e, h0, _⟩ := distAt_mem h hjo
    rw [e]
    rcases hB.cause p (j : Int) dp hp hd with ⟨h1, h2⟩ | ⟨h1, m, om, dm, hm, h2, h3, h4, h5, h6⟩
    · rw [if_pos (hR.2 h1)]; exact h2
    · rw [if_neg (fun hh => h1 (hR.1 hh))]
      have hom : om ∈ orderOf g := List.mem_of_getElem? h2
      have hor := order_ok h hom
      obtain ⟨om, rfl⟩ := Int.eq_ofNat_of_zero_le hor.1
      have hdm := distAt_of h h2 h3
      have hdm0 := (distAt_nonneg h (om : Int)).2 hom
      rcases bestK_spec (fun i => distAt g (i : Int)) (fun i => refers (fieldsOf g (i : Int)) (j : Int)) g.objs.length with ⟨_, hno⟩ | ⟨i, hi, b1, b2, b3, b4⟩
      · exact absurd ⟨hdm0, (hF om (by omega)).2 h4⟩ (hno om (by omega))
      · rw [b3]
        have hle := b4 om (by omega) hdm0 ((hF om (by omega)).2 h4)
        have hio := (distAt_nonneg h (i : Int)).1 b1
        obtain ⟨q, dq, hq, hdq, eq, _, _⟩ := distAt_mem h hio
        have hji := (hF i hi).1 b2
        have hmq : m ≤ q := by
          rcases Nat.lt_or_ge q m with hlt | hge
          · exact absurd hji (h6 q (i : Int) hlt hq)
          · exact hge
        have := hB.mono m q dm dq hmq h3 hdq
        omega
  · have e : distAt g (j : Int) = -1 := by unfold distAt; rw [if_neg hjo]
    rw [e, if_neg (fun hh => hjo (order_roots g _ (hR.1 hh)))]
    rcases bestK_spec (fun i => distAt g (i : Int)) (fun i => refers (fieldsOf g (i : Int)) (j : Int)) g.objs.length with ⟨h1, _⟩ | ⟨i, hi, b1, b2, _, _⟩
    · exact h1.symm
    · exact absurd (order_closed h ((distAt_nonneg h (i : Int)).1 b1) _ ((hF i hi).1 b2)) hjo

theorem bestK_bounds {D : Nat → Int} {R : Nat → Bool} (hD : ∀ i, -1 ≤ D i ∧ D i ≤ 256) (k : Nat) : -1 ≤ bestK D R k ∧ bestK D R k ≤ 257 := by
  rcases bestK_spec D R k with ⟨h1, _⟩ | ⟨i, _, h2, _, h3, _⟩
  · omega
  · have := hD i; omega

end Go.Proofs.Ytngjakeofhmohaa

/- How far objects are, level by level: plain facts. -/
namespace Go.Proofs.Ytngjakeofhmohaa
set_option linter.unusedSimpArgs false
set_option linter.unusedVariables false

/-- What is known behind s levels. -/
def lev (D : Nat → Int) (s j : Nat) : Int := if 0 ≤ D j ∧ D j ≤ (s : Int) then D j else -1
/-- One of the first i that stand at level s refers to j. -/
def hit (D : Nat → Int) (R : Nat → Nat → Bool) (s i j : Nat) : Bool := (List.range i).any fun i' => decide (D i' = (s : Int)) && R i' j
def mid (D : Nat → Int) (R : Nat → Nat → Bool) (s i j : Nat) : Int := if 0 ≤ lev D s j then lev D s j else if hit D R s i j = true then (s : Int) + 1 else -1

theorem hit_succ (D : Nat → Int) (R : Nat → Nat → Bool) (s i j : Nat) : hit D R s (i + 1) j = (hit D R s i j || (decide (D i = (s : Int)) && R i j)) := by
  unfold hit; rw [List.range_succ, List.any_append]; simp

theorem hit_iff (D : Nat → Int) (R : Nat → Nat → Bool) (s i j : Nat) : hit D R s i j = true ↔ ∃ i', i' < i ∧ D i' = (s : Int) ∧ R i' j = true := by
  unfold hit; simp [List.any_eq_true]

theorem lev_cases (D : Nat → Int) (s j : Nat) : (0 ≤ lev D s j ∧ lev D s j = D j ∧ D j ≤ (s : Int)) ∨ (lev D s j = -1 ∧ ¬ (0 ≤ D j ∧ D j ≤ (s : Int))) := by
  unfold lev; split
  · left; omega
  · right; omega

theorem mid_zero (D : Nat → Int) (R : Nat → Nat → Bool) (s j : Nat) : mid D R s 0 j = lev D s j := by
  unfold mid
  rcases lev_cases D s j with ⟨h, _, _⟩ | ⟨h, _⟩
  · rw [if_pos h]
  · rw [if_neg (by omega), if_neg (by simp [hit]), h]

theorem mid_skip {D : Nat → Int} {R : Nat → Nat → Bool} {s i j : Nat} (h : D i ≠ (s : Int)) : mid D R s (i + 1) j = mid D R s i j := by
  unfold mid; rw [hit_succ]; simp [h]

theorem mid_set {D : Nat → Int} {R : Nat → Nat → Bool} {s i j : Nat} (h1 : mid D R s i j < 0) (h2 : D i = (s : Int)) (h3 : R i j = true) : mid D R s (i + 1) j = (s : Int) + 1 := by
  unfold mid at *
  rcases lev_cases D s j with ⟨h, _, _⟩ | ⟨h, _⟩
  · rw [if_pos h] at h1; omega
  · rw [if_neg (by omega), if_pos (by rw [hit_succ]; simp [h2, h3])]

theorem mid_keep {D : Nat → Int} {R : Nat → Nat → Bool} {s i j : Nat} (h : 0 ≤ mid D R s i j ∨ R i j = false) : mid D R s (i + 1) j = mid D R s i j := by
  unfold mid at *
  rcases lev_cases D s j with ⟨h0, _, _⟩ | ⟨h0, _⟩
  · rw [if_pos h0, if_pos h0]
  · have hn : ¬ 0 ≤ lev D s j := by omega
    simp only [if_neg hn] at h ⊢
    rcases h with h | h
    · by_cases hh : hit D R s i j = true
      · rw [if_pos hh, if_pos (by rw [hit_succ, hh]; rfl)]
      · rw [if_neg hh] at h; omega
    · rw [hit_succ, h]; simp

theorem mid_self {D : Nat → Int} {R : Nat → Nat → Bool} {s i k : Nat} : mid D R s k i = (s : Int) ↔ D i = (s : Int) := by
  unfold mid
  rcases lev_cases D s i with ⟨h, h1, h2⟩ | ⟨h, h1⟩
  · rw [if_pos h, h1]
  · rw [if_neg (by omega)]
    split
    · constructor
      · intro e; omega
      · intro e; exfalso; apply h1; omega
    · constructor
      · intro e; omega
      · intro e; exfalso; apply h1; omega

theorem mid_bounds {D : Nat → Int} {R : Nat → Nat → Bool} (s i j : Nat) : -1 ≤ mid D R s i j ∧ mid D R s i j ≤ (s : Int) + 1 := by
  unfold mid
  rcases lev_cases D s j with ⟨h, h1, h2⟩ | ⟨h, h1⟩
  · rw [if_pos h]; omega
  · rw [if_neg (by omega)]; split <;> omega

def dG (g : Gr) (i : Nat) : Int := distAt g (i : Int)
def rG (g : Gr) (i j : Nat) : Bool := refers (fieldsOf g (i : Int)) (j : Int)

theorem mid_end {g : Gr} (h : Good g) {s j : Nat} (hj : j < g.objs.length) : mid (dG g) (rG g) s g.objs.length j = lev (dG g) (s + 1) j := by
  have hst := steps_eq h hj
  have hb := distAt_bounds h (j : Int)
  have hsp := bestK_spec (dG g) (fun i => rG g i j) g.objs.length
  have hst : dG g j = if refers g.roots (j : Int) = true then 0 else bestK (dG g) (fun i => rG g i j) g.objs.length := hst
  have hb1 : -1 ≤ dG g j := hb.1
  unfold mid
  rcases lev_cases (dG g) s j with ⟨h0, h1, h2⟩ | ⟨h0, h1⟩
  · rw [if_pos h0, h1]; unfold lev; rw [if_pos ⟨by omega, by omega⟩]
  · rw [if_neg (by omega)]
    by_cases hh : hit (dG g) (rG g) s g.objs.length j = true
    · rw [if_pos hh]
      obtain ⟨i', hi', e1, e2⟩ := (hit_iff _ _ _ _ _).1 hh
      have : dG g j = (s : Int) + 1 := by
        by_cases hr : refers g.roots (j : Int) = true
        · rw [if_pos hr] at hst; omega
        · rw [if_neg hr] at hst
          rcases hsp with ⟨_, hno⟩ | ⟨i, hi, b1, b2, b3, b4⟩
          · exact absurd ⟨by omega, e2⟩ (hno i' hi')
          · have := b4 i' hi' (by omega) e2
            omega
      unfold lev; rw [if_pos (by omega), this]
    · rw [if_neg hh]
      unfold lev
      rw [if_neg]
      intro hc
      have hs1 : dG g j = (s : Int) + 1 := by omega
      by_cases hr : refers g.roots (j : Int) = true
      · rw [if_pos hr] at hst; omega
      · rw [if_neg hr] at hst
        rcases hsp with ⟨hno, _⟩ | ⟨i, hi, b1, b2, b3, b4⟩
        · omega
        · exact hh ((hit_iff _ _ _ _ _).2 ⟨i, hi, by omega, b2⟩)

theorem lev_start {g : Gr} (h : Good g) {j : Nat} (hj : j < g.objs.length) : lev (dG g) 0 j = if refers g.roots (j : Int) = true then 0 else -1 := by
  have hst := steps_eq h hj
  have hsp := bestK_spec (dG g) (fun i => rG g i j) g.objs.length
  have hst : dG g j = if refers g.roots (j : Int) = true then 0 else bestK (dG g) (fun i => rG g i j) g.objs.length := hst
  unfold lev
  by_cases hr : refers g.roots (j : Int) = true
  · rw [if_pos hr] at hst; rw [if_pos hr, if_pos (by omega), hst]
  · rw [if_neg hr] at hst; rw [if_neg hr, if_neg]
    rcases hsp with ⟨hno, _⟩ | ⟨i, hi, b1, b2, b3, b4⟩ <;> omega

theorem lev_end {g : Gr} (h : Good g) {j : Nat} : lev (dG g) g.objs.length j = dG g j := by
  have hb : -1 ≤ dG g j := (distAt_bounds h (j : Int)).1
  unfold lev
  by_cases h0 : 0 ≤ dG g j
  · obtain ⟨m, d, hm, _, e, _, h2⟩ := distAt_mem h ((distAt_nonneg h (j : Int)).1 h0)
    have h3 := (List.getElem?_eq_some_iff.1 hm).1
    have h4 := (searchN_ok h g.objs.length).le
    have h3 : m < (searchN g g.objs.length).1.length := h3
    rw [if_pos ⟨h0, by unfold dG; omega⟩]
  · rw [if_neg (by omega)]; omega

/-- A list that holds a function's values. -/
def Holds' (dl : List Int) (n : Nat) (f : Nat → Int) : Prop := dl.length = n ∧ ∀ j, j < n → dl[j]? = some (f j)

theorem Holds'.set {dl : List Int} {n : Nat} {f f' : Nat → Int} (h : Holds' dl n f) {j : Nat} (hj : j < n) {v : Int} (hv : f' j = v) (ho : ∀ q, q < n → q ≠ j → f' q = f q) : Holds' (dl.set j v) n f' := by
  refine ⟨by rw [List.length_set]; exact h.1, fun q hq => ?_⟩
  by_cases e : q = j
  · subst e; rw [List.getElem?_set_self (by rw [h.1]; exact hq), hv]
  · rw [List.getElem?_set_ne (fun h => e h.symm), h.2 q hq, ho q hq e]

theorem Holds'.congr {dl : List Int} {n : Nat} {f f' : Nat → Int} (h : Holds' dl n f) (ho : ∀ q, q < n → f' q = f q) : Holds' dl n f' := ⟨h.1, fun q hq => by rw [h.2 q hq, ho q hq]⟩

theorem Holds'.dist {g : Gr} {dl : List Int} (h : Holds' dl g.objs.length (dG g)) : dl = distL g := by
  apply List.ext_getElem?
  intro i
  by_cases hi : i < g.objs.length
  · rw [h.2 i hi]; simp [distL, List.getElem?_map, List.getElem?_range hi, dG]
  · rw [List.getElem?_eq_none (by rw [h.1]; omega), List.getElem?_eq_none (by rw [distL_len]; omega)]

end Go.Proofs.Ytngjakeofhmohaa

/- Walks: the document's answer: Dist. -/
namespace Go.Proofs.Ytngjakeofhmohaa
set_option linter.unusedSimpArgs false
set_option linter.unusedVariables false
open Go.RowKit

/-- A row of numbers in a block of the call's own. -/
structure DRow (W : World) (b n : Nat) (dl : List Int) : Prop where
  own : W.ownsRow b 3 1 (.slice (some ⟨b, 0, none⟩) n n) n (intsV dl)
  len : dl.length = n

theorem DRow.below {W W' : World} {b n : Nat} {dl : List Int} (h : DRow W b n dl) (hb : Below W.heap.size W W') : DRow W' b n dl :=
  ⟨h.own.kept (grown_of_below hb) (Classical.em _), h.len⟩

theorem DRow.lt {W : World} {b n : Nat} {dl : List Int} (h : DRow W b n dl) : b < W.heap.size := (h.own.lt b rfl).2

theorem DRow.cell {W : World} {b n : Nat} {dl : List Int} (h : DRow W b n dl) {k : Nat} {x : Int} (hx : dl[k]? = some x) : W.cell? ⟨b, k, none⟩ = some (.int .i64 x) := by
  have := h.own.cells (g := b) rfl k (.int .i64 x) (by simp [intsV, hx])
  have hadd : (⟨b, 0, none⟩ : Addr).add k = ⟨b, k, none⟩ := by unfold Addr.add; split <;> simp_all
  rwa [hadd] at this

theorem DRow.set {W : World} {b n : Nat} {dl : List Int} (h : DRow W b n dl) (k : Nat) (x : Int) : DRow (W.setCell ⟨b, k, none⟩ (.int .i64 x)) b n (dl.set k x) := by
  refine ⟨?_, by rw [List.length_set]; exact h.len⟩
  have := (h.own.stored k (.int .i64 x)).1
  have e : intsV (dl.set k x) = (intsV dl).set k (.int .i64 x) := by simp [intsV, List.map_set]
  rw [e]; exact this

theorem DRow.frozen {W : World} {b n : Nat} {dl : List Int} (h : DRow W b n dl) (k : Nat) : W.frozen? ⟨b, k, none⟩ = false := h.own.frozenAt k

theorem made_ints (n : Nat) : (madeCells (Value.int .i64 0).cells (n * 1)).toList = intsV (List.replicate n 0) := by
  rw [Nat.mul_one]
  have hc : (Value.int .i64 0).cells = #[Value.int .i64 0] := rfl
  rw [hc]
  apply List.ext_getElem?
  intro i
  simp only [madeCells, intsV, Array.toList_map, Array.toList_range, List.getElem?_map, List.getElem?_replicate]
  by_cases hi : i < n
  · rw [List.getElem?_range hi, if_pos hi]; simp [Nat.mod_one]
  · rw [List.getElem?_eq_none (by simp; omega), if_neg hi]; rfl

def start1 (g : Gr) (k j : Nat) : Int := if j < k then lev (dG g) 0 j else 0

set_option maxRecDepth 100000 in
set_option maxHeartbeats 4000000 in
theorem refDist_c (ao ar : Option Addr) (co cr : Nat) (g : Gr) (B : Nat) (w : World) (ho : Objs B w ao g.objs) (hr : Vals B w ar g.roots) (hB : B ≤ w.heap.size) (hG : Good g) :
    Calls Try.prog 36 #[.agg #[.slice ao g.objs.length co, .slice ar g.roots.length cr]] w fun e w' => ∃ a cap, e = .returned (.slice a (distL g).length cap) ∧ Ints w'.heap.size w' a (distL g) ∧ Below w.heap.size w w' := by
  obtain ⟨i0, hi, hz0, hz1, hz2⟩ := info_parts Try.info3
  have hn24 := hG.n24
  obtain ⟨W4, hW4⟩ : ∃ W4, w.alloc (.cells #[.slice ao g.objs.length co, .slice ar g.roots.length cr] 43) = W4 := ⟨_, rfl⟩
  have hb0 : Below w.heap.size w W4 := by rw [← hW4]; exact (Below.refl _ _).alloc (Nat.le_refl _) _
  have hs0 : w.heap.size < W4.heap.size := by rw [← hW4]; simp
  have g0 : W4.cell? ⟨w.heap.size, 0, none⟩ = some (.slice ao g.objs.length co) := by rw [← hW4]; simp [go_sem]
  have g1 : W4.cell? ⟨w.heap.size, 1, none⟩ = some (.slice ar g.roots.length cr) := by rw [← hW4]; simp [go_sem]
  go_enter Try.func36, Try.ntmps36
  go_wp2_with (at_make; go_must (refine wpList_make_full _ rfl _ _ 25 rfl W4.heap.size 3 i0 _ 1 Try.underlying25 hi hz0 hz1 .i64 .i64 _ _ g.objs.length rfl rfl rfl rfl (by rw [hz2]; omega) (by simp only [maxLen]; omega) (Nat.le_refl _) ?_); go_must (intro w5 hown hg5))
  clear hW4
  have hb5 : Below W4.heap.size W4 w5 := (Below.refl _ W4).grown hg5 (Nat.le_refl _) (fun k e => by cases e)
  obtain ⟨dl5, hD5⟩ : ∃ dl5, DRow w5 W4.heap.size g.objs.length dl5 := by
    refine ⟨List.replicate g.objs.length 0, ⟨?_, by simp⟩⟩
    have e : (madeCells (Value.int .i64 0).cells (g.objs.length * 1)).toList = intsV (List.replicate g.objs.length 0) := made_ints _
    rw [e] at hown
    exact hown
  clear hown hg5
  go_loopw [4] (fun i wr => ∃ (k : Nat) (dl : List Int), k ≤ g.objs.length ∧ i = .int .i64 k ∧ DRow wr W4.heap.size g.objs.length dl ∧ Hid (∀ j, j < k → dl[j]? = some (lev (dG g) 0 j)) ∧ Below W4.heap.size W4 wr) (fun i _ => g.objs.length - (intOf i).toNat)
  case atStart => exact ⟨0, dl5, Nat.zero_le _, rfl, hD5, fun j hj => by omega, hb5⟩
  case round =>
    clear hD5 hb5
    obtain ⟨k, dl, hk, rfl, hD, Hd, hb⟩ := hrel
    have hsz := hb.size
    have hlt0 := hD.lt
    by_cases hlt : k < g.objs.length
    · have hltd : k < dl.length := by rw [hD.len]; exact hlt
      have hx0 := hD.cell (List.getElem?_eq_getElem hltd)
      have hf0 := hD.frozen k
      have hltI : (k : Int) < (g.objs.length : Int) := by omega
      have hD1 := hD.set k (-1)
      have hb1 : Below W4.heap.size W4 (wr.setCell ⟨W4.heap.size, k, none⟩ (.int .i64 (-1))) := hb.setCell (p := ⟨W4.heap.size, k, none⟩) (Nat.le_refl _) _
      obtain ⟨W6, hW6⟩ : ∃ W6, wr.setCell ⟨W4.heap.size, k, none⟩ (.int .i64 (-1)) = W6 := ⟨_, rfl⟩
      rw [hW6] at hD1 hb1
      have hs6 := hb1.size
      have q1 := (hb1.cell (p := ⟨w.heap.size, 1, none⟩) (by simp; omega)).trans g1
      have hV6 := (hr.below ((hb0.mono hB).trans (hb1.mono (by omega)))).mono (B' := W6.heap.size) (by omega)
      have HL := hide (lev_start hG hlt)
      have Hd1 : Hid (∀ j, j < k → (dl.set k (-1))[j]? = some (lev (dG g) 0 j)) := fun j hj => by rw [List.getElem?_set_ne (by omega)]; exact unhide Hd j hj
      have hl1 : (dl.set k (-1)).length = g.objs.length := hD1.len
      clear hD hb Hd
      cases hrf : refers g.roots (k : Int)
      · have HL : Hid (lev (dG g) 0 k = -1) := by have := unhide HL; rw [hrf] at this; exact this
        go_wp2_with (go_at_call 54; go_must (refine (refers_c ar cr g.roots (k : Int) W6.heap.size W6 hV6 (Nat.le_refl _)).mono ?_); go_must (rintro e w7 ⟨he, hb7⟩; rw [hrf] at he; subst he))
        go_roundw
        case rel =>
          refine ⟨k + 1, dl.set k (-1), by omega, by go_num, hD1.below hb7, ?_, hb1.trans (hb7.mono hs6)⟩
          intro j hj
          rcases Nat.lt_or_ge j k with h | h
          · exact unhide Hd1 j h
          · obtain rfl : j = k := by omega
            rw [List.getElem?_set_self hltd, unhide HL]
        case measure => simp [intOf]; omega
      · have HL : Hid (lev (dG g) 0 k = 0) := by have := unhide HL; rw [hrf] at this; exact this
        go_wp2_with (go_at_call 54; go_must (refine (refers_c ar cr g.roots (k : Int) W6.heap.size W6 hV6 (Nat.le_refl _)).mono ?_); go_must (rintro e w7 ⟨he, hb7⟩; rw [hrf] at he; subst he; have hD7 := hD1.below hb7; have hx7 := hD7.cell (List.getElem?_set_self hltd); have hf7 := hD7.frozen k))
        go_roundw
        case rel =>
          refine ⟨k + 1, (dl.set k (-1)).set k 0, by omega, by go_num, hD7.set k 0, ?_, (hb1.trans (hb7.mono hs6)).setCell (p := ⟨W4.heap.size, k, none⟩) (Nat.le_refl _) _⟩
          intro j hj
          rcases Nat.lt_or_ge j k with h | h
          · rw [List.getElem?_set_ne (by omega)]; exact unhide Hd1 j h
          · obtain rfl : j = k := by omega
            rw [List.getElem?_set_self (by omega), unhide HL]
        case measure => simp [intOf]; omega
    · obtain rfl : k = g.objs.length := by omega
      have Hh : Hid (Holds' dl g.objs.length (lev (dG g) 0)) := ⟨hD.len, unhide Hd⟩
      clear Hd
      go_wp2
      go_loopw [5] (fun i wr => ∃ (s : Nat) (dl : List Int), s ≤ g.objs.length ∧ i = .int .i64 s ∧ DRow wr W4.heap.size g.objs.length dl ∧ Hid (Holds' dl g.objs.length (lev (dG g) s)) ∧ Below W4.heap.size W4 wr) (fun i _ => g.objs.length - (intOf i).toNat)
      case atStart => exact ⟨0, dl, Nat.zero_le _, rfl, hD, Hh, hb⟩
      case round =>
        clear hD hb hsz hlt0 Hh
        obtain ⟨s, dl, hs, rfl, hD, Hh, hb⟩ := hrel
        by_cases hlts : s < g.objs.length
        · have hltI : (s : Int) < (g.objs.length : Int) := by omega
          have Hh : Hid (Holds' dl g.objs.length (mid (dG g) (rG g) s 0)) := (unhide Hh).congr (fun q _ => mid_zero _ _ _ _)
          go_wp2
          go_loopw [6] (fun i wr => ∃ (p : Nat) (dl : List Int), p ≤ g.objs.length ∧ i = .int .i64 p ∧ DRow wr W4.heap.size g.objs.length dl ∧ Hid (Holds' dl g.objs.length (mid (dG g) (rG g) s p)) ∧ Below W4.heap.size W4 wr) (fun i _ => g.objs.length - (intOf i).toNat)
          case atStart => exact ⟨0, dl, Nat.zero_le _, rfl, hD, Hh, hb⟩
          case round =>
            clear hD hb Hh
            obtain ⟨p, dl, hp, rfl, hD, Hh, hb⟩ := hrel
            by_cases hltp : p < g.objs.length
            · have hltpI : (p : Int) < (g.objs.length : Int) := by omega
              obtain ⟨bo, oo, ai, ci, rfl, hboB, hcb, hva⟩ := ho.at hltp
              have Hfs := hide (show fieldsOf g (p : Int) = g.objs[p] by simp [fieldsOf, hltp])
              have HR : Hid (∀ q : Nat, rG g p q = refers g.objs[p] (q : Int)) := fun q => by unfold rG; rw [unhide Hfs]
              generalize g.objs[p] = fs at *
              by_cases hds : dG g p = (s : Int)
              · have Hds := hide hds
                clear hds
                go_wp2
                go_loopw [7] (fun i wr => ∃ (q : Nat) (dl : List Int), q ≤ g.objs.length ∧ i = .int .i64 q ∧ DRow wr W4.heap.size g.objs.length dl ∧ Hid (Holds' dl g.objs.length (fun j => if j < q then mid (dG g) (rG g) s (p + 1) j else mid (dG g) (rG g) s p j)) ∧ Below W4.heap.size W4 wr) (fun i _ => g.objs.length - (intOf i).toNat)
                case atStart => exact ⟨0, dl, Nat.zero_le _, rfl, hD, (unhide Hh).congr (fun q _ => by rw [if_neg (by omega)]), hb⟩
                case round =>
                  clear hD hb Hh
                  obtain ⟨q, dl, hq, rfl, hD, Hh, hb⟩ := hrel
                  have hsz := hb.size
                  have hlt0 := hD.lt
                  have hbw : Below B w wr := (hb0.mono hB).trans (hb.mono (by omega))
                  have hxp : ∃ x, dl[p]? = some x ∧ x = (s : Int) := by
                    refine ⟨_, (unhide Hh).2 p hltp, ?_⟩
                    show (if p < q then mid (dG g) (rG g) s (p + 1) p else mid (dG g) (rG g) s p p) = (s : Int)
                    split <;> exact mid_self.2 (unhide Hds)
                  obtain ⟨x, hxp, hxs⟩ := hxp
                  subst hxs
                  have hcp := hD.cell hxp
                  have dss : ((s : Int) == (s : Int)) = true := by simp
                  by_cases hltq : q < g.objs.length
                  · have hltqI : (q : Int) < (g.objs.length : Int) := by omega
                    have hxq := (unhide Hh).2 q hltq
                    simp only [Nat.lt_irrefl, if_false] at hxq
                    have hmb := mid_bounds (D := dG g) (R := rG g) s p q
                    have hcq := hD.cell hxq
                    have hfq := hD.frozen q
                    have q0 := (hb.cell (p := ⟨w.heap.size, 0, none⟩) (by simp; omega)).trans g0
                    have hcb2 := (hbw.cell (p := ⟨bo, oo + p, none⟩) (by simpa using hboB)).trans hcb
                    have hva2 := (hva.below hbw).mono (B' := wr.heap.size) (by omega)
                    have Hset : Hid (mid (dG g) (rG g) s p q < 0 → refers fs (q : Int) = true → mid (dG g) (rG g) s (p + 1) q = (s : Int) + 1) := fun h1 h2 => mid_set h1 (unhide Hds) (by rw [unhide HR q]; exact h2)
                    have Hkeep : Hid (0 ≤ mid (dG g) (rG g) s p q ∨ refers fs (q : Int) = false → mid (dG g) (rG g) s (p + 1) q = mid (dG g) (rG g) s p q) := fun h => mid_keep (h.imp id (fun h => by rw [unhide HR q]; exact h))
                    have Hnext : Hid (mid (dG g) (rG g) s (p + 1) q = mid (dG g) (rG g) s p q → Holds' dl g.objs.length (fun j => if j < q + 1 then mid (dG g) (rG g) s (p + 1) j else mid (dG g) (rG g) s p j)) := fun h => (unhide Hh).congr (fun j _ => by
                      rcases Nat.lt_trichotomy j q with h1 | h1 | h1
                      · rw [if_pos (by omega), if_pos h1]
                      · subst h1; rw [if_pos (by omega), if_neg (by omega), h]
                      · rw [if_neg (by omega), if_neg (by omega)])
                    have Hnew : Hid (mid (dG g) (rG g) s (p + 1) q = (s : Int) + 1 → Holds' (dl.set q ((s : Int) + 1)) g.objs.length (fun j => if j < q + 1 then mid (dG g) (rG g) s (p + 1) j else mid (dG g) (rG g) s p j)) := fun h => (unhide Hh).set hltq (by rw [if_pos (by omega)]; exact h) (fun j _ hj => by
                      rcases Nat.lt_trichotomy j q with h1 | h1 | h1
                      · rw [if_pos (by omega), if_pos h1]
                      · exact absurd h1 hj
                      · rw [if_neg (by omega), if_neg (by omega)])
                    generalize mid (dG g) (rG g) s p q = y at *
                    generalize mid (dG g) (rG g) s (p + 1) q = y1 at *
                    by_cases hy : y < 0
                    · cases hrf : refers fs (q : Int)
                      · have HN := hide (unhide Hnext (unhide Hkeep (.inr hrf)))
                        go_wp2_with (go_at_call 54; go_must (refine (refers_c ai ci fs (q : Int) wr.heap.size wr hva2 (Nat.le_refl _)).mono ?_); go_must (rintro e w7 ⟨he, hb7⟩; rw [hrf] at he; subst he))
                        go_roundw
                        case rel => exact ⟨q + 1, dl, by omega, by go_num, hD.below hb7, HN, hb.trans (hb7.mono hsz)⟩
                        case measure => simp [intOf]; omega
                      · have HN := hide (unhide Hnew (unhide Hset hy hrf))
                        have hw1 : IntKind.i64.wrap ((s : Int) + 1) = (s : Int) + 1 := by rw [IntKind.wrap_i64]; omega
                        go_wp2_with (go_at_call 54; go_must (refine (refers_c ai ci fs (q : Int) wr.heap.size wr hva2 (Nat.le_refl _)).mono ?_); go_must (rintro e w7 ⟨he, hb7⟩; rw [hrf] at he; subst he; have hD7 := hD.below hb7; have hx7 := hD7.cell hxq; have hf7 := hD7.frozen q))
                        go_roundw
                        case rel => exact ⟨q + 1, dl.set q ((s : Int) + 1), by omega, by go_num, hD7.set q _, HN, (hb.trans (hb7.mono hsz)).setCell (p := ⟨W4.heap.size, q, none⟩) (Nat.le_refl _) _⟩
                        case measure => simp [intOf]; omega
                    · have HN := hide (unhide Hnext (unhide Hkeep (.inl (by omega))))
                      have dy : decide (y < 0) = false := by simp; omega
                      go_wp2
                      go_roundw
                      case rel => exact ⟨q + 1, dl, by omega, by go_num, hD, HN, hb⟩
                      case measure => simp [intOf]; omega
                  · obtain rfl : q = g.objs.length := by omega
                    have HN : Hid (Holds' dl g.objs.length (mid (dG g) (rG g) s (p + 1))) := (unhide Hh).congr (fun j hj => by rw [if_pos hj])
                    go_wp2
                    go_roundw
                    case rel => exact ⟨p + 1, dl, by omega, by go_num, hD, HN, hb⟩
                    case measure => simp [intOf]; omega
              · have HN : Hid (Holds' dl g.objs.length (mid (dG g) (rG g) s (p + 1))) := (unhide Hh).congr (fun j _ => mid_skip hds)
                have Hxp := (unhide Hh).2 p hltp
                have hcp := hD.cell Hxp
                have dne : (mid (dG g) (rG g) s p p == (s : Int)) = false := by simp; exact fun h => hds (mid_self.1 h)
                have hlt0 := hD.lt
                clear hds
                generalize mid (dG g) (rG g) s p p = y at *
                go_wp2
                go_loopw [7] (fun i wq => i = .int .i64 0 ∧ wq = wr) (fun _ _ => 0)
                case atStart => exact ⟨rfl, rfl⟩
                case round =>
                  obtain ⟨rfl, rfl⟩ := hrel
                  go_wp2
                  go_roundw
                  case rel => exact ⟨p + 1, dl, by omega, by go_num, hD, HN, hb⟩
                  case measure => simp [intOf]; omega
            · obtain rfl : p = g.objs.length := by omega
              have HN : Hid (Holds' dl g.objs.length (lev (dG g) (s + 1))) := (unhide Hh).congr (fun j hj => (mid_end hG hj).symm)
              go_wp2
              go_roundw
              case rel => exact ⟨s + 1, dl, by omega, by go_num, hD, HN, hb⟩
              case measure => simp [intOf]; omega
        · obtain rfl : s = g.objs.length := by omega
          have HN : Hid (dl = distL g) := ((unhide Hh).congr (fun j _ => (lev_end hG).symm)).dist
          have hown := hD.own
          rw [unhide HN] at hown
          obtain ⟨a', cap', hv, hV, _⟩ := ints_of_owns hown (distL_len g).symm (by omega)
          have Hv := hide hv
          clear hv
          go_wp2
          go_ret
          exact ⟨a', cap', congrArg Ending.returned (unhide Hv), hV, hb0.trans (hb.mono (by omega))⟩

end Go.Proofs.Ytngjakeofhmohaa

/- Walks: the document's answer: Reach; GraphTells. -/
namespace Go.Proofs.Ytngjakeofhmohaa
set_option linter.unusedSimpArgs false
set_option linter.unusedVariables false
open Go.RowKit

/-- The first k objects, those that can be come to. -/
def reachK (g : Gr) (k : Nat) : List Int := ((List.range k).filter (fun (i : Nat) => decide (0 ≤ dG g i))).map (fun (i : Nat) => (i : Int))

theorem reachK_yes {g : Gr} {k : Nat} (h : 0 ≤ dG g k) : reachK g (k + 1) = reachK g k ++ [(k : Int)] := by
  unfold reachK; rw [List.range_succ, List.filter_append, List.map_append]; simp [h]
theorem reachK_no {g : Gr} {k : Nat} (h : dG g k < 0) : reachK g (k + 1) = reachK g k := by
  unfold reachK; rw [List.range_succ, List.filter_append, List.map_append]; simp; omega
theorem reachK_len (g : Gr) (k : Nat) : (reachK g k).length ≤ k := by
  unfold reachK; rw [List.length_map]; have := List.length_filter_le (fun i => decide (0 ≤ dG g i)) (List.range k); simpa using this

set_option maxRecDepth 100000 in
set_option maxHeartbeats 1000000 in
theorem refReach_c (ao ar : Option Addr) (co cr : Nat) (g : Gr) (B : Nat) (w : World) (ho : Objs B w ao g.objs) (hr : Vals B w ar g.roots) (hB : B ≤ w.heap.size) (hG : Good g) :
    Calls Try.prog 16 #[.agg #[.slice ao g.objs.length co, .slice ar g.roots.length cr]] w fun e w' => ∃ a cap, e = .returned (.slice a (reachK g g.objs.length).length cap) ∧ Ints w'.heap.size w' a (reachK g g.objs.length) ∧ Below w.heap.size w w' := by
  obtain ⟨i0, hi, hz0, hz1, hz2⟩ := info_parts Try.info3
  have hn24 := hG.n24
  have hb1 := (Below.refl w.heap.size w).alloc (Nat.le_refl _) (.cells #[.slice ao g.objs.length co, .slice ar g.roots.length cr] 43)
  go_enter Try.func16, Try.ntmps16
  go_wp2_with fail
  refine (refDist_c ao ar co cr g B _ (ho.below (hb1.mono hB)) (hr.below (hb1.mono hB)) (by simp; omega) hG).mono ?_
  rintro e w2 ⟨ad, cd, rfl, hI2, hb2⟩
  have hbw2 : Below w.heap.size w w2 := hb1.trans (hb2.mono (by simp))
  clear hb1 hb2
  have hlD : (distL g).length = g.objs.length := distL_len g
  have HlD := hide hlD
  have hDk : Hid (∀ k, k < g.objs.length → (distL g)[k]? = some (dG g k)) := fun k hk => by simp [distL, List.getElem?_map, List.getElem?_range hk, dG]
  rw [hlD]
  clear hlD
  generalize distL g = D at *
  go_wp2
  go_loopw [3, 9] (fun s i wr => ∃ k : Nat, k ≤ g.objs.length ∧ i = .int .i64 k ∧ wr.ownsRow w2.heap.size 3 1 s (reachK g k).length (intsV (reachK g k)) ∧ Below w2.heap.size w2 wr) (fun _ i _ => g.objs.length - (intOf i).toNat)
  case atStart => exact ⟨0, Nat.zero_le _, rfl, World.ownsRow_nil _ _ _ _, Below.refl _ _⟩
  case round =>
    obtain ⟨k, hk, rfl, hown, hb⟩ := hrel
    have hsz := hb.size
    have hkl := reachK_len g k
    by_cases hlt : k < g.objs.length
    · have hltD : k < D.length := by rw [unhide HlD]; exact hlt
      obtain ⟨bd, od, rfl, hbd, hcd⟩ := (hI2.below hb).at hltD
      have hx := unhide hDk k hlt
      rw [List.getElem?_eq_getElem hltD] at hx
      injection hx with hx
      rw [hx] at hcd
      have Hyes := hide (fun h => reachK_yes (g := g) (k := k) h)
      have Hno := hide (fun h => reachK_no (g := g) (k := k) h)
      clear hx
      generalize dG g k = x at *
      have hmx : (reachK g k).length + 1 ≤ maxLen := by simp only [maxLen]; omega
      have hmy : ((reachK g k).length + 1) * 8 ≤ 140737488355328 := by omega
      by_cases hx0 : 0 ≤ x
      · have d : decide (x ≥ 0) = true := by simpa using hx0
        have d' : decide (0 ≤ x) = true := by simpa using hx0
        have HT := hide (unhide Hyes hx0)
        go_wp2_with (at_builtin; go_must (refine wpList_append_own _ rfl _ _ 25 rfl w2.heap.size 3 i0 _ 1 8 Try.underlying25 hi hz0 hz1 hz2 rfl (by decide) _ _ _ rfl (hown.alloc _) ⟨wr.heap.size, 0, none⟩ 1 1 [.int .i64 k] rfl rfl (cell_one_at _ _ _ _ (by simp)) (by simp [Value.oneCell']) hmx hmy (by simp; omega) ?_); intro v' w1 hown' hgrow _)
        go_roundw
        case rel => exact ⟨k + 1, by omega, by go_num, by rw [unhide HT, intsV_snoc, List.length_append]; exact hown', (hb.alloc hsz _).grown hgrow (by simp; omega) (fun q e => (hown.lt q e).1)⟩
        case measure => simp [intOf]; omega
      · have d : decide (x ≥ 0) = false := by simp; omega
        have d' : decide (0 ≤ x) = false := by simp; omega
        have HT := hide (unhide Hno (by omega))
        go_wp2
        go_roundw
        case rel => exact ⟨k + 1, by omega, by go_num, by rw [unhide HT]; exact hown, hb⟩
        case measure => simp [intOf]; omega
    · obtain rfl : k = g.objs.length := by omega
      obtain ⟨a', cap', hv, hV, _⟩ := ints_of_owns hown rfl (by omega)
      have Hv := hide hv
      clear hv
      go_wp2
      go_ret
      exact ⟨a', cap', congrArg Ending.returned (unhide Hv), hV, hbw2.trans (hb.mono hbw2.size)⟩

end Go.Proofs.Ytngjakeofhmohaa

/- Plain: what can be come to in an arena is what can be come to in its graph. -/
namespace Go.Proofs.Ytngjakeofhmohaa
set_option linter.unusedSimpArgs false
set_option linter.unusedVariables false
open Go.RowKit

theorem Arn.f4 {hs : List Int} {fs : List (List Int)} {rs : List Int} (h : Arn hs fs rs) : ∀ f ∈ fs, f.length ≤ 4 := by
  intro f hf
  obtain ⟨k, hk⟩ := List.getElem?_of_mem hf
  have hlt : k < hs.length := by have := (List.getElem?_eq_some_iff.1 hk).1; have := h.fit.len; omega
  have := h.fit.ok k _ f (List.getElem?_eq_getElem hlt) hk
  rw [← this.2.1]
  exact wlen_le this.1

theorem good_read {hs : List Int} {fs : List (List Int)} {rs : List Int} (h : Arn hs fs rs) : Good (readG fs rs) := by
  have hnd := stF_nodup fs 0
  refine ⟨?_, ?_, ?_, ?_, ?_⟩
  · rw [readG_len]; have := tot_len fs; have := h.n256; omega
  · rw [readG_rlen]; exact h.n8
  · intro l hl
    unfold readG at hl
    obtain ⟨f, hf, rfl⟩ := List.mem_map.1 hl
    have := h.f4 f hf
    simp; omega
  · intro v hv hr
    unfold readG at hv
    obtain ⟨x, hx, rfl⟩ := List.mem_map.1 hv
    have := (word_back hnd (h.ur x hx).1 (h.ur x hx).2 (h.okr x hx)).2.1 hr
    rw [stF_len] at this
    rw [readG_len]
    exact this
  · intro l hl v hv hr
    unfold readG at hl
    obtain ⟨f, hf, rfl⟩ := List.mem_map.1 hl
    obtain ⟨x, hx, rfl⟩ := List.mem_map.1 hv
    have := (word_back hnd (h.uf f hf x hx).1 (h.uf f hf x hx).2 (h.okf f hf x hx)).2.1 hr
    rw [stF_len] at this
    rw [readG_len]
    exact this

/-- References of words, and of their values. -/
theorem to_iff {fs : List (List Int)} {l : List Int} (hok : ∀ x ∈ l, okW (stF 0 fs) x = true) (j : Nat) : To fs l j ↔ (true, (j : Int)) ∈ l.map (valW (stF 0 fs)) := by
  constructor
  · rintro ⟨x, hx, hr, hj⟩
    refine List.mem_map.2 ⟨x, hx, ?_⟩
    rw [valW_ref hr, placeOf_nodup (stF_nodup fs 0) hj]
  · intro h
    obtain ⟨x, hx, he⟩ := List.mem_map.1 h
    cases hr : unRef x
    · rw [valW_num hr] at he; simp at he
    · obtain ⟨k, hk⟩ := (ok_ref (hok x hx)).2 hr
      rw [valW_ref hr, placeOf_nodup (stF_nodup fs 0) hk] at he
      have : k = j := by simp at he; omega
      subst this
      exact ⟨x, hx, hr, hk⟩

theorem fieldsOf_read {fs : List (List Int)} {rs : List Int} {i : Nat} {f : List Int} (hf : fs[i]? = some f) : fieldsOf (readG fs rs) (i : Int) = f.map (valW (stF 0 fs)) := by
  simp [fieldsOf, readG, hf]

theorem rch_order {hs : List Int} {fs : List (List Int)} {rs : List Int} (h : Arn hs fs rs) (j : Nat) : Rch fs rs j ↔ (j : Int) ∈ orderOf (readG fs rs) := by
  have hG := good_read h
  have hfo : ∀ {i : Nat} {f : List Int}, fs[i]? = some f → RefsOk (f.map (valW (stF 0 fs))) := fun {i f} hf => by
    refine hG.refsObjs ?_
    unfold readG
    exact List.mem_map.2 ⟨f, List.mem_of_getElem? hf, rfl⟩
  constructor
  · intro hr
    refine hr (fun j => (j : Int) ∈ orderOf (readG fs rs)) (fun j ht => ?_) (fun i f j hf hi ht => ?_)
    · refine order_roots _ _ ((mem_refsL hG.refsRoots _).2 ?_)
      exact (to_iff h.okr j).1 ht
    · refine order_closed hG hi _ ?_
      rw [fieldsOf_read hf]
      exact (mem_refsL (hfo hf) _).2 ((to_iff (h.okf f (List.mem_of_getElem? hf)) j).1 ht)
  · intro hj
    have key : ∀ (n p : Nat) (o dp : Int), (orderOf (readG fs rs))[p]? = some o → (distOf (readG fs rs))[p]? = some dp → dp.toNat ≤ n → ∃ j : Nat, o = (j : Int) ∧ Rch fs rs j := by
      intro n
      induction n with
      | zero =>
        intro p o dp h1 h2 h3
        have hpos := (searchN_ok hG _).pos p dp h2
        rcases (bfs (readG fs rs) (readG fs rs).objs.length).cause p o dp h1 h2 with ⟨hr, _⟩ | ⟨_, m, om, dm, _, e1, e2, _, e4, _⟩
        · have hro := hG.roots o hr
          obtain ⟨j, rfl⟩ := Int.eq_ofNat_of_zero_le hro.1
          exact ⟨j, rfl, rch_root ((to_iff h.okr j).2 ((mem_refsL hG.refsRoots _).1 hr))⟩
        · have := (searchN_ok hG _).pos m dm e2
          omega
      | succ n ih =>
        intro p o dp h1 h2 h3
        rcases (bfs (readG fs rs) (readG fs rs).objs.length).cause p o dp h1 h2 with ⟨hr, _⟩ | ⟨_, m, om, dm, _, e1, e2, e3, e4, _⟩
        · have hro := hG.roots o hr
          obtain ⟨j, rfl⟩ := Int.eq_ofNat_of_zero_le hro.1
          exact ⟨j, rfl, rch_root ((to_iff h.okr j).2 ((mem_refsL hG.refsRoots _).1 hr))⟩
        · have hdm := (searchN_ok hG _).pos m dm e2
          obtain ⟨i, rfl, hi⟩ := ih m om dm e1 e2 (by omega)
          have hil := (order_ok hG (List.mem_of_getElem? e1)).2
          rw [readG_len] at hil
          have hf : fs[i]? = some fs[i] := List.getElem?_eq_getElem (by omega)
          rw [fieldsOf_read hf] at e3
          have hmem : fs[i] ∈ fs := List.getElem_mem (by omega)
          have ho := (mem_refsL (hfo hf) _).1 e3
          have hob : 0 ≤ o := (hfo hf (true, o) ho rfl).1
          obtain ⟨j, rfl⟩ := Int.eq_ofNat_of_zero_le hob
          exact ⟨j, rfl, rch_step hi hf ((to_iff (h.okf _ hmem) j).2 ho)⟩
    obtain ⟨p, hp⟩ := List.getElem?_of_mem hj
    have hlen := (searchN_ok hG (readG fs rs).objs.length).len
    have hlt : p < (distOf (readG fs rs)).length := by
      have := (List.getElem?_eq_some_iff.1 hp).1
      unfold orderOf at this
      unfold distOf
      omega
    obtain ⟨j', e, hr⟩ := key _ p _ _ hp (List.getElem?_eq_getElem hlt) (Nat.le_refl _)
    have : j = j' := by omega
    subst this
    exact hr

/-- The first k objects, as told by reachK. -/
theorem mem_reachK {hs : List Int} {fs : List (List Int)} {rs : List Int} (h : Arn hs fs rs) (j : Nat) : (j : Int) ∈ reachK (readG fs rs) (readG fs rs).objs.length ↔ Rch fs rs j := by
  have hG := good_read h
  rw [rch_order h, ← distAt_nonneg hG]
  unfold reachK dG
  simp only [List.mem_map, List.mem_filter, List.mem_range, decide_eq_true_eq]
  constructor
  · rintro ⟨i, ⟨_, hd⟩, e⟩
    have : i = j := by omega
    subst this
    exact hd
  · intro hd
    have := order_ok hG ((distAt_nonneg hG _).1 hd)
    exact ⟨j, ⟨by omega, hd⟩, rfl⟩

end Go.Proofs.Ytngjakeofhmohaa

/- Plain: objects as they are come to, first what each leads to. -/
namespace Go.Proofs.Ytngjakeofhmohaa
set_option linter.unusedSimpArgs false
set_option linter.unusedVariables false
open Go.RowKit

/-- Is a value a reference to an object that was not come to yet? -/
def nw (L : List Nat) (v : V) : Bool := v.1 && !L.contains v.2.toNat

theorem nw_iff {L : List Nat} {v : V} : nw L v = true ↔ v.1 = true ∧ v.2.toNat ∉ L := by simp [nw]
theorem nw_not {L : List Nat} {v : V} : nw L v = false ↔ (v.1 = true → v.2.toNat ∈ L) := by
  cases h : v.1 <;> simp [nw, h]

/-- What is come to from values on, behind L; ways of at most n objects. -/
def dN (A : List (List V)) : Nat → List V → List Nat → List Nat
  | 0, _, L => L
  | n + 1, l, L => l.foldl (fun L v => if nw L v then dN A n (A.getD v.2.toNat []) (L ++ [v.2.toNat]) else L) L

def sN (A : List (List V)) (n : Nat) (L : List Nat) (v : V) : List Nat := if nw L v then dN A n (A.getD v.2.toNat []) (L ++ [v.2.toNat]) else L

theorem dN_succ (A : List (List V)) (n : Nat) (l : List V) (L : List Nat) : dN A (n + 1) l L = l.foldl (sN A n) L := rfl
theorem dN_nil (A : List (List V)) (n : Nat) (L : List Nat) : dN A n [] L = L := by cases n <;> rfl

theorem foldl_sub {s : List Nat → V → List Nat} (h : ∀ L v x, x ∈ L → x ∈ s L v) : ∀ (l : List V) (L : List Nat) (x : Nat), x ∈ L → x ∈ l.foldl s L
  | [], L, x, hx => hx
  | v :: l, L, x, hx => foldl_sub h l _ x (h L v x hx)

theorem dN_sub (A : List (List V)) : ∀ (n : Nat) (l : List V) (L : List Nat) (x : Nat), x ∈ L → x ∈ dN A n l L
  | 0, l, L, x, hx => hx
  | n + 1, l, L, x, hx => by
    rw [dN_succ]
    refine foldl_sub (fun L v x hx => ?_) l L x hx
    unfold sN
    split
    · exact dN_sub A n _ _ x (by simp [hx])
    · exact hx

theorem sN_sub (A : List (List V)) (n : Nat) (L : List Nat) (v : V) (x : Nat) (hx : x ∈ L) : x ∈ sN A n L v := by
  unfold sN
  split
  · exact dN_sub A n _ _ x (by simp [hx])
  · exact hx

/-- How many were not come to yet. -/
def uns (N : Nat) (L : List Nat) : Nat := unm N (fun i => L.contains i)

theorem uns_le (N : Nat) (L : List Nat) : uns N L ≤ N := by
  unfold uns unm
  have := List.length_filter_le (fun (i : Nat) => !L.contains i) (List.range N)
  rw [List.length_range] at this
  exact this

theorem uns_mono {N : Nat} {L L' : List Nat} (h : ∀ x ∈ L, x ∈ L') : uns N L' ≤ uns N L := by
  unfold uns unm
  rw [← List.countP_eq_length_filter, ← List.countP_eq_length_filter]
  refine List.countP_mono_left fun x _ hx => ?_
  simp at hx ⊢
  exact fun e => hx (h x e)

theorem uns_snoc {N : Nat} {L : List Nat} {j : Nat} (hj : j < N) (hn : j ∉ L) : uns N (L ++ [j]) + 1 = uns N L := by
  have e : (fun i => (L ++ [j]).contains i) = upd (fun i => L.contains i) j := by
    funext i
    by_cases h1 : i = j
    · simp [upd, h1]
    · by_cases h2 : i ∈ L <;> simp [upd, h1, h2]
  unfold uns
  rw [e]
  exact unm_upd hj (by simpa using hn)

theorem getD_out {A : List (List V)} {j : Nat} (h : ¬ j < A.length) : A.getD j [] = [] := by
  rw [List.getD_eq_getElem?_getD, List.getElem?_eq_none (by omega)]; rfl

theorem dN_fuel (A : List (List V)) : ∀ (n : Nat) (l : List V) (L : List Nat), uns A.length L < n → dN A n l L = dN A (n + 1) l L
  | 0, l, L, h => by omega
  | n + 1, l, L, h => by
    rw [dN_succ, dN_succ]
    induction l generalizing L with
    | nil => rfl
    | cons v l ih =>
      have e : sN A n L v = sN A (n + 1) L v := by
        unfold sN
        split
        · rename_i hv
          have hv' := nw_iff.1 hv
          by_cases hj : v.2.toNat < A.length
          · have := uns_snoc hj hv'.2
            exact dN_fuel A n _ _ (by omega)
          · rw [getD_out hj, dN_nil, dN_nil]
        · rfl
      simp only [List.foldl_cons]
      rw [e]
      exact ih _ (Nat.lt_of_le_of_lt (uns_mono (sN_sub A (n + 1) L v)) h)

/-- What is come to from values on, behind L: first what each leads to. -/
def dF (A : List (List V)) (l : List V) (L : List Nat) : List Nat := dN A (A.length + 1) l L

theorem dF_nil (A : List (List V)) (L : List Nat) : dF A [] L = L := dN_nil A _ L

theorem dF_cons (A : List (List V)) (v : V) (l : List V) (L : List Nat) : dF A (v :: l) L = dF A l (if nw L v then dF A (A.getD v.2.toNat []) (L ++ [v.2.toNat]) else L) := by
  unfold dF
  rw [dN_succ, dN_succ, List.foldl_cons]
  congr 1
  unfold sN
  split
  · rename_i hv
    have hv' := nw_iff.1 hv
    by_cases hj : v.2.toNat < A.length
    · have h1 := uns_snoc hj hv'.2
      have h2 := uns_le A.length L
      exact dN_fuel A _ _ _ (by omega)
    · rw [getD_out hj, dN_nil, dN_nil]
  · rfl

theorem dF_new {A : List (List V)} {v : V} {L : List Nat} (l : List V) (h : nw L v = true) : dF A (v :: l) L = dF A l (dF A (A.getD v.2.toNat []) (L ++ [v.2.toNat])) := by
  rw [dF_cons, if_pos h]
theorem dF_old {A : List (List V)} {v : V} {L : List Nat} (l : List V) (h : nw L v = false) : dF A (v :: l) L = dF A l L := by
  rw [dF_cons, if_neg (by simp [h])]

theorem dF_append (A : List (List V)) : ∀ (l m : List V) (L : List Nat), dF A (l ++ m) L = dF A m (dF A l L)
  | [], m, L => by rw [dF_nil]; rfl
  | v :: l, m, L => by rw [List.cons_append, dF_cons, dF_append A l m, ← dF_cons]

theorem dF_sub (A : List (List V)) (l : List V) (L : List Nat) (x : Nat) (h : x ∈ L) : x ∈ dF A l L := dN_sub A _ l L x h

/-- What holds of all that is come to. -/
theorem dF_ind {A : List (List V)} {M : List V → List Nat → List Nat → Prop} (h0 : ∀ L, M [] L L) (h1 : ∀ v l L R, nw L v = false → M l L R → M (v :: l) L R)
    (h2 : ∀ v l L K R, nw L v = true → M (A.getD v.2.toNat []) (L ++ [v.2.toNat]) K → M l K R → M (v :: l) L R) (l : List V) (L : List Nat) : M l L (dF A l L) := by
  have key : ∀ (m : Nat) (l : List V) (L : List Nat), uns A.length L < m → M l L (dF A l L) := by
    intro m
    induction m with
    | zero => intro l L h; omega
    | succ m ihm =>
      intro l
      induction l with
      | nil => intro L _; rw [dF_nil]; exact h0 L
      | cons v l ihl =>
        intro L hL
        cases hv : nw L v
        · rw [dF_old l hv]
          exact h1 v l L _ hv (ihl L hL)
        · rw [dF_new l hv]
          have hv' := nw_iff.1 hv
          refine h2 v l L _ _ hv ?_ (ihl _ (Nat.lt_of_le_of_lt (uns_mono fun x hx => dF_sub A _ _ x (by simp [hx])) hL))
          by_cases hj : v.2.toNat < A.length
          · have := uns_snoc hj hv'.2
            exact ihm _ _ (by omega)
          · rw [getD_out hj, dF_nil]
            exact h0 _
  exact key _ l L (Nat.lt_succ_self _)

/-- Each is come to from a value of R, or from one that was come to ahead of it. -/
def Fr (A : List (List V)) (R : List V) (L : List Nat) : Prop := ∀ (i j : Nat), L[i]? = some j → (∃ v ∈ R, v.1 = true ∧ v.2.toNat = j) ∨ ∃ k m, k < i ∧ L[k]? = some m ∧ ∃ v ∈ A.getD m [], v.1 = true ∧ v.2.toNat = j

/-- Values that may be looked at, behind L. -/
def Srd (A : List (List V)) (R : List V) (L : List Nat) (l : List V) : Prop := ∀ v ∈ l, v ∈ R ∨ ∃ m ∈ L, v ∈ A.getD m []

structure DOk (A : List (List V)) (R : List V) (l : List V) (L K : List Nat) : Prop where
  pre : ∃ T, K = L ++ T
  nd : L.Nodup → K.Nodup
  cov : ∀ v ∈ l, v.1 = true → v.2.toNat ∈ K
  cl : ∀ x ∈ K, x ∉ L → ∀ v ∈ A.getD x [], v.1 = true → v.2.toNat ∈ K
  fr : Fr A R L → Srd A R L l → Fr A R K

theorem DOk.sub {A : List (List V)} {R l : List V} {L K : List Nat} (h : DOk A R l L K) {x : Nat} (hx : x ∈ L) : x ∈ K := by
  obtain ⟨T, rfl⟩ := h.pre
  simp [hx]

theorem dF_ok (A : List (List V)) (R l : List V) (L : List Nat) : DOk A R l L (dF A l L) := by
  refine dF_ind (M := DOk A R) (fun L => ⟨⟨[], by simp⟩, fun h => h, by simp, fun x h1 h2 => absurd h1 h2, fun h _ => h⟩) ?_ ?_ l L
  · intro v l L K hv h
    refine ⟨h.pre, h.nd, fun u hu hr => ?_, h.cl, fun h1 h2 => h.fr h1 (fun u hu => h2 u (by simp [hu]))⟩
    rcases List.mem_cons.1 hu with rfl | hu
    · exact h.sub (nw_not.1 hv hr)
    · exact h.cov u hu hr
  · intro v l L K K' hv h h'
    have hv' := nw_iff.1 hv
    obtain ⟨T, hT⟩ := h.pre
    obtain ⟨T', hT'⟩ := h'.pre
    refine ⟨⟨[v.2.toNat] ++ T ++ T', by rw [hT', hT]; simp⟩, fun hn => h'.nd (h.nd ?_), fun u hu hr => ?_, fun x hx hxL u hu hr => ?_, fun h1 h2 => ?_⟩
    · rw [List.nodup_append]
      exact ⟨hn, by simp, fun a ha b hb => by simp at hb; subst hb; exact fun e => hv'.2 (e ▸ ha)⟩
    · rcases List.mem_cons.1 hu with rfl | hu
      · exact h'.sub (h.sub (by simp))
      · exact h'.cov u hu hr
    · by_cases hxK : x ∈ K
      · by_cases hxj : x = v.2.toNat
        · subst hxj
          exact h'.sub (h.cov u hu hr)
        · exact h'.sub (h.cl x hxK (by simp [hxL, hxj]) u hu hr)
      · exact h'.cl x hx hxK u hu hr
    · have hs : ∀ x ∈ L, x ∈ K := fun x hx => h.sub (by simp [hx])
      refine h'.fr (h.fr ?_ ?_) ?_
      · intro i j hi
        by_cases hlt : i < L.length
        · rw [List.getElem?_append_left hlt] at hi
          rcases h1 i j hi with h3 | ⟨k, m, h3, h4, h5⟩
          · exact .inl h3
          · exact .inr ⟨k, m, h3, by rw [List.getElem?_append_left (by omega)]; exact h4, h5⟩
        · rw [List.getElem?_append_right (by omega)] at hi
          rcases Nat.eq_zero_or_pos (i - L.length) with h0 | h0
          · rw [h0] at hi
            simp at hi
            subst hi
            rcases h2 v (by simp) with h3 | ⟨m, hm, h3⟩
            · exact .inl ⟨v, h3, hv'.1, rfl⟩
            · obtain ⟨k, hk⟩ := List.getElem?_of_mem hm
              have hkl := (List.getElem?_eq_some_iff.1 hk).1
              exact .inr ⟨k, m, by omega, by rw [List.getElem?_append_left hkl]; exact hk, v, h3, hv'.1, rfl⟩
          · rw [List.getElem?_eq_none (by simp; omega)] at hi; cases hi
      · intro u hu
        exact .inr ⟨v.2.toNat, by simp, hu⟩
      · intro u hu
        rcases h2 u (by simp [hu]) with h3 | ⟨m, hm, h3⟩
        · exact .inl h3
        · exact .inr ⟨m, hs m hm, h3⟩

/-- The objects of an arena, as they are come to. -/
def visL (fs : List (List Int)) (rs : List Int) : List Nat := dF (readG fs rs).objs (readG fs rs).roots []

theorem objs_getD {fs : List (List Int)} {rs : List Int} {i : Nat} {f : List Int} (hf : fs[i]? = some f) : (readG fs rs).objs.getD i [] = f.map (valW (stF 0 fs)) := by
  simp [readG, hf]

/-- References of values. -/
theorem ref_to {fs : List (List Int)} {l : List Int} (hU : U64 l) (hok : ∀ x ∈ l, okW (stF 0 fs) x = true) (j : Nat) : (∃ v ∈ l.map (valW (stF 0 fs)), v.1 = true ∧ v.2.toNat = j) ↔ To fs l j := by
  rw [to_iff hok]
  constructor
  · rintro ⟨v, hv, h1, h2⟩
    obtain ⟨x, hx, rfl⟩ := List.mem_map.1 hv
    have h3 := (word_back (stF_nodup fs 0) (hU x hx).1 (hU x hx).2 (hok x hx)).2.1 h1
    have e : valW (stF 0 fs) x = (true, (j : Int)) := by
      refine Prod.ext h1 ?_
      show (valW (stF 0 fs) x).2 = _
      omega
    rw [← e]
    exact hv
  · intro h
    exact ⟨_, h, rfl, by simp⟩

theorem visL_ok {hs : List Int} {fs : List (List Int)} {rs : List Int} (h : Arn hs fs rs) :
    (visL fs rs).Nodup ∧ (∀ j, j ∈ visL fs rs ↔ Rch fs rs j) ∧ ∀ (i j : Nat), (visL fs rs)[i]? = some j → To fs rs j ∨ ∃ k m f, k < i ∧ (visL fs rs)[k]? = some m ∧ fs[m]? = some f ∧ To fs f j := by
  have hd := dF_ok (readG fs rs).objs (readG fs rs).roots (readG fs rs).roots []
  have hfr := hd.fr (fun i j hi => by simp at hi) (fun v hv => .inl hv)
  have hF : ∀ (i j : Nat), (visL fs rs)[i]? = some j → To fs rs j ∨ ∃ k m f, k < i ∧ (visL fs rs)[k]? = some m ∧ fs[m]? = some f ∧ To fs f j := by
    intro i j hi
    rcases hfr i j hi with h1 | ⟨k, m, h1, h2, v, h3, h4, h5⟩
    · exact .inl ((ref_to h.ur h.okr j).1 h1)
    · have hm : m < fs.length := by
        refine Nat.lt_of_not_le fun hle => ?_
        rw [getD_out (by rw [readG_len]; omega)] at h3
        simp at h3
      have hf := List.getElem?_eq_getElem hm
      rw [objs_getD hf] at h3
      exact .inr ⟨k, m, fs[m], h1, h2, hf, (ref_to (h.uf _ (List.getElem_mem hm)) (h.okf _ (List.getElem_mem hm)) j).1 ⟨v, h3, h4, h5⟩⟩
  refine ⟨hd.nd (by simp), fun j => ⟨fun hj => ?_, fun hj => ?_⟩, hF⟩
  · obtain ⟨i, hi⟩ := List.getElem?_of_mem hj
    have key : ∀ (n i j : Nat), i < n → (visL fs rs)[i]? = some j → Rch fs rs j := by
      intro n
      induction n with
      | zero => intro i j h; omega
      | succ n ih =>
        intro i j hin hi
        rcases hF i j hi with h1 | ⟨k, m, f, h1, h2, h3, h4⟩
        · exact rch_root h1
        · exact rch_step (ih k m (by omega) h2) h3 h4
    exact key _ i j (Nat.lt_succ_self i) hi
  · refine hj (fun j => j ∈ visL fs rs) (fun j ht => ?_) (fun i f j hf hi ht => ?_)
    · obtain ⟨v, hv, h1, h2⟩ := (ref_to h.ur h.okr j).2 ht
      rw [← h2]
      exact hd.cov v hv h1
    · have hm := List.mem_of_getElem? hf
      obtain ⟨v, hv, h1, h2⟩ := (ref_to (h.uf f hm) (h.okf f hm) j).2 ht
      rw [← h2]
      refine hd.cl i hi (by simp) v ?_ h1
      rw [objs_getD hf]
      exact hv

theorem visL_lt {hs : List Int} {fs : List (List Int)} {rs : List Int} (h : Arn hs fs rs) {j : Nat} (hj : j ∈ visL fs rs) : j < fs.length := by
  obtain ⟨i, hi⟩ := List.getElem?_of_mem hj
  have aux : ∀ {l : List Int}, To fs l j → j < fs.length := fun ⟨x, _, _, hx⟩ => by
    have := (List.getElem?_eq_some_iff.1 hx).1
    rw [stF_len] at this
    exact this
  rcases (visL_ok h).2.2 i j hi with h1 | ⟨k, m, f, _, _, _, h1⟩
  · exact aux h1
  · exact aux h1

end Go.Proofs.Ytngjakeofhmohaa

/- What a marker holds, in memory. -/
namespace Go.Proofs.Ytngjakeofhmohaa
set_option linter.unusedSimpArgs false
set_option linter.unusedVariables false
open Go.RowKit Go.Shelf

theorem grown_set (W : World) (b j : Nat) (u : Value) : W.grownBy (W.setCell ⟨b, j, none⟩ u) (some b) :=
  ⟨rfl, rfl, rfl, by simp [World.setCell], fun k _ hk => Below.heap_setCell _ _ _ _ (fun e => hk (by simp [e]))⟩

theorem ty_set {W : World} {mb : Nat} {t : TypeId} (h : ∃ cs, W.heap[mb]? = some (.cells cs t)) (j : Nat) (u : Value) : ∃ cs, (W.setCell ⟨mb, j, none⟩ u).heap[mb]? = some (.cells cs t) := by
  obtain ⟨cs, h⟩ := h
  exact ⟨_, heap_setCell_same W mb j cs t u h⟩

/-- Blocks of other types than words, numbers and markers are as they were. -/
def KeepT (W W' : World) : Prop := ∀ (k : Nat) (cs : Array Value) (t : TypeId), W.heap[k]? = some (.cells cs t) → t ≠ 52 → t ≠ 3 → t ≠ 75 → W'.heap[k]? = some (.cells cs t)

theorem KeepT.trans {a b c : World} (h : KeepT a b) (h' : KeepT b c) : KeepT a c := fun k cs t hk h1 h2 h3 => h' k cs t (h k cs t hk h1 h2 h3) h1 h2 h3
theorem KeepT.refl (W : World) : KeepT W W := fun k cs t hk _ _ _ => hk
theorem KeepT.below {W W' : World} (h : Below W.heap.size W W') : KeepT W W' := fun k cs t hk _ _ _ => by rw [h.block k (Array.getElem?_eq_some_iff.1 hk).1]; exact hk
theorem KeepT.alloc {a W : World} (h : KeepT a W) (o : Obj) : KeepT a (W.alloc o) := h.trans (KeepT.below ((Below.refl _ _).alloc (Nat.le_refl _) _))
theorem KeepT.setCell {a W : World} (h : KeepT a W) {b j : Nat} {t : TypeId} (hb : ∃ cs, W.heap[b]? = some (.cells cs t)) (ht : t = 52 ∨ t = 3 ∨ t = 75) (u : Value) : KeepT a (W.setCell ⟨b, j, none⟩ u) := by
  refine h.trans fun k cs t' hk h1 h2 h3 => ?_
  obtain ⟨cs', hb⟩ := hb
  rw [Below.heap_setCell _ _ _ _ ?_]
  · exact hk
  · intro e
    subst e
    rw [hk] at hb
    injection hb with hb
    injection hb with _ hb
    subst hb
    rcases ht with ht | ht | ht
    · exact h1 ht
    · exact h2 ht
    · exact h3 ht
theorem KeepT.grown {a W W' : World} (h : KeepT a W) {base n : Nat} {t : TypeId} {size : Nat} {v : Value} {xs : List Value} (hr : W.ownsRow base t size v n xs) (hg : W.grownBy W' v.ownBlock) (ht : t = 52 ∨ t = 3 ∨ t = 75) : KeepT a W' := by
  refine h.trans fun k cs t' hk h1 h2 h3 => ?_
  rw [hg.block k (Array.getElem?_eq_some_iff.1 hk).1 ?_]
  · exact hk
  · intro e
    rcases hr.2 with ⟨rfl, _⟩ | ⟨g, cap, cur, rfl, _, hb, _⟩
    · simp [Value.ownBlock] at e
    · obtain rfl : k = g := by simpa [Value.ownBlock] using e
      rw [hk] at hb
      injection hb with hb
      injection hb with _ hb
      subst hb
      rcases ht with ht | ht | ht
      · exact h1 ht
      · exact h2 ht
      · exact h3 ht
theorem ty_row {W : World} {base n cap g : Nat} {t : TypeId} {size : Nat} {xs : List Value} (hr : W.ownsRow base t size (.slice (some ⟨g, 0, none⟩) n cap) n xs) : ∃ cs, W.heap[g]? = some (.cells cs t) := by
  rcases hr.2 with ⟨h, _⟩ | ⟨g', cap', cur, h, _, hb, _⟩
  · cases h
  · cases h
    exact ⟨cur, hb⟩

/-- The five cells of a marker. -/
structure MBox (W : World) (mb : Nat) (vw vr : Value) (room : Nat) (vk : Value) (lost : Bool) : Prop where
  c0 : W.cell? ⟨mb, 0, none⟩ = some vw
  c1 : W.cell? ⟨mb, 1, none⟩ = some vr
  c2 : W.cell? ⟨mb, 2, none⟩ = some (.int .i64 room)
  c3 : W.cell? ⟨mb, 3, none⟩ = some vk
  c4 : W.cell? ⟨mb, 4, none⟩ = some (.bool lost)
  fr : ∀ j, W.frozen? ⟨mb, j, none⟩ = false
  ty : ∃ cs, W.heap[mb]? = some (.cells cs 75)

theorem MBox.kept {W W' : World} {mb : Nat} {vw vr vk : Value} {room : Nat} {lost : Bool} (h : MBox W mb vw vr room vk lost) (hb : W'.heap[mb]? = W.heap[mb]?) : MBox W' mb vw vr room vk lost :=
  ⟨(World.cell?_of_block (a := ⟨mb, 0, none⟩) hb).trans h.c0, (World.cell?_of_block (a := ⟨mb, 1, none⟩) hb).trans h.c1, (World.cell?_of_block (a := ⟨mb, 2, none⟩) hb).trans h.c2, (World.cell?_of_block (a := ⟨mb, 3, none⟩) hb).trans h.c3, (World.cell?_of_block (a := ⟨mb, 4, none⟩) hb).trans h.c4,
    fun j => (World.frozen?_of_block (a := ⟨mb, j, none⟩) hb).trans (h.fr j), by rw [hb]; exact h.ty⟩

theorem MBox.lt {W : World} {mb : Nat} {vw vr vk : Value} {room : Nat} {lost : Bool} (h : MBox W mb vw vr room vk lost) : mb < W.heap.size := World.block_lt_of_cell? W _ h.c0

theorem MBox.set0 {W : World} {mb : Nat} {vw vr vk : Value} {room : Nat} {lost : Bool} (h : MBox W mb vw vr room vk lost) (v : Value) : MBox (W.setCell ⟨mb, 0, none⟩ v) mb v vr room vk lost := by
  refine ⟨World.cell?_setCell_same' _ _ _ (by rw [h.c0]; rfl), ?_, ?_, ?_, ?_, fun j => by rw [World.frozen?_setCell]; exact h.fr j, ty_set h.ty _ _⟩
  · rw [World.cell?_setCell_other _ _ _ _ (by simp)]; exact h.c1
  · rw [World.cell?_setCell_other _ _ _ _ (by simp)]; exact h.c2
  · rw [World.cell?_setCell_other _ _ _ _ (by simp)]; exact h.c3
  · rw [World.cell?_setCell_other _ _ _ _ (by simp)]; exact h.c4

theorem MBox.set1 {W : World} {mb : Nat} {vw vr vk : Value} {room : Nat} {lost : Bool} (h : MBox W mb vw vr room vk lost) (v : Value) : MBox (W.setCell ⟨mb, 1, none⟩ v) mb vw v room vk lost := by
  refine ⟨?_, World.cell?_setCell_same' _ _ _ (by rw [h.c1]; rfl), ?_, ?_, ?_, fun j => by rw [World.frozen?_setCell]; exact h.fr j, ty_set h.ty _ _⟩
  · rw [World.cell?_setCell_other _ _ _ _ (by simp)]; exact h.c0
  · rw [World.cell?_setCell_other _ _ _ _ (by simp)]; exact h.c2
  · rw [World.cell?_setCell_other _ _ _ _ (by simp)]; exact h.c3
  · rw [World.cell?_setCell_other _ _ _ _ (by simp)]; exact h.c4

theorem MBox.set3 {W : World} {mb : Nat} {vw vr vk : Value} {room : Nat} {lost : Bool} (h : MBox W mb vw vr room vk lost) (v : Value) : MBox (W.setCell ⟨mb, 3, none⟩ v) mb vw vr room v lost := by
  refine ⟨?_, ?_, ?_, World.cell?_setCell_same' _ _ _ (by rw [h.c3]; rfl), ?_, fun j => by rw [World.frozen?_setCell]; exact h.fr j, ty_set h.ty _ _⟩
  · rw [World.cell?_setCell_other _ _ _ _ (by simp)]; exact h.c0
  · rw [World.cell?_setCell_other _ _ _ _ (by simp)]; exact h.c1
  · rw [World.cell?_setCell_other _ _ _ _ (by simp)]; exact h.c2
  · rw [World.cell?_setCell_other _ _ _ _ (by simp)]; exact h.c4

theorem MBox.set4 {W : World} {mb : Nat} {vw vr vk : Value} {room : Nat} {lost : Bool} (h : MBox W mb vw vr room vk lost) (b : Bool) : MBox (W.setCell ⟨mb, 4, none⟩ (.bool b)) mb vw vr room vk b := by
  refine ⟨?_, ?_, ?_, ?_, World.cell?_setCell_same' _ _ _ (by rw [h.c4]; rfl), fun j => by rw [World.frozen?_setCell]; exact h.fr j, ty_set h.ty _ _⟩
  · rw [World.cell?_setCell_other _ _ _ _ (by simp)]; exact h.c0
  · rw [World.cell?_setCell_other _ _ _ _ (by simp)]; exact h.c1
  · rw [World.cell?_setCell_other _ _ _ _ (by simp)]; exact h.c2
  · rw [World.cell?_setCell_other _ _ _ _ (by simp)]; exact h.c3

/-- A marker: its words, its roots, the places that are kept. -/
structure Mk (W : World) (N mb : Nat) (vw vr vk : Value) (ws rs K : List Int) (room : Nat) (lost : Bool) : Prop where
  box : MBox W mb vw vr room vk lost
  lo : N ≤ mb
  wo : W.ownsRow N 52 1 vw ws.length (wordsV ws)
  ro : W.ownsRow N 52 1 vr rs.length (wordsV rs)
  ko : W.ownsRow N 3 1 vk K.length (intsV K)
  aw : vw.ownBlock ≠ some mb
  ar : vr.ownBlock ≠ some mb
  ak : vk.ownBlock ≠ some mb
  wr : ∀ k, vw.ownBlock = some k → vr.ownBlock ≠ some k
  wk : ∀ k, vw.ownBlock = some k → vk.ownBlock ≠ some k
  rk : ∀ k, vr.ownBlock = some k → vk.ownBlock ≠ some k

theorem or_ne {v : Value} {k : Nat} (h : v.ownBlock ≠ some k) : v.ownBlock = none ∨ v.ownBlock ≠ some k := .inr h

theorem Mk.below {W W' : World} {N mb : Nat} {vw vr vk : Value} {ws rs K : List Int} {room : Nat} {lost : Bool} (h : Mk W N mb vw vr vk ws rs K room lost) (hb : Below W.heap.size W W') : Mk W' N mb vw vr vk ws rs K room lost :=
  ⟨h.box.kept (hb.block _ h.box.lt), h.lo, ownsRow_below h.wo hb, ownsRow_below h.ro hb, ownsRow_below h.ko hb, h.aw, h.ar, h.ak, h.wr, h.wk, h.rk⟩

theorem Mk.alloc {W : World} {N mb : Nat} {vw vr vk : Value} {ws rs K : List Int} {room : Nat} {lost : Bool} (h : Mk W N mb vw vr vk ws rs K room lost) (o : Obj) : Mk (W.alloc o) N mb vw vr vk ws rs K room lost :=
  h.below ((Below.refl _ _).alloc (Nat.le_refl _) _)

/-- Behind a store of a word. -/
theorem Mk.setW {W : World} {N mb wb cap n : Nat} {vr vk : Value} {ws rs K : List Int} {room : Nat} {lost : Bool} (h : Mk W N mb (.slice (some ⟨wb, 0, none⟩) n cap) vr vk ws rs K room lost) (hn : n = ws.length) (j : Nat) (y : Int) :
    Mk (W.setCell ⟨wb, j, none⟩ (.int .u64 y)) N mb (.slice (some ⟨wb, 0, none⟩) n cap) vr vk (ws.set j y) rs K room lost := by
  subst hn
  have hg := grown_set W wb j (.int .u64 y)
  have e : wordsV (ws.set j y) = (wordsV ws).set j (.int .u64 y) := by simp [wordsV, List.map_set]
  refine ⟨h.box.kept (hg.block _ h.box.lt (fun e => h.aw e.symm)), h.lo, ?_, h.ro.kept hg (or_ne (h.wr wb rfl)), h.ko.kept hg (or_ne (h.wk wb rfl)), h.aw, h.ar, h.ak, h.wr, h.wk, h.rk⟩
  rw [e, List.length_set]
  exact (h.wo.stored j (.int .u64 y)).1

/-- Behind a store of whether something was lost. -/
theorem Mk.setL {W : World} {N mb : Nat} {vw vr vk : Value} {ws rs K : List Int} {room : Nat} {lost : Bool} (h : Mk W N mb vw vr vk ws rs K room lost) (b : Bool) : Mk (W.setCell ⟨mb, 4, none⟩ (.bool b)) N mb vw vr vk ws rs K room b := by
  have hg := grown_set W mb 4 (.bool b)
  exact ⟨h.box.set4 b, h.lo, h.wo.kept hg (or_ne h.aw), h.ro.kept hg (or_ne h.ar), h.ko.kept hg (or_ne h.ak), h.aw, h.ar, h.ak, h.wr, h.wk, h.rk⟩

/-- Behind a store of the kept places. -/
theorem Mk.setK {W : World} {N mb : Nat} {vw vr vk vk' : Value} {ws rs K' : List Int} {room : Nat} {lost : Bool} (h : MBox W mb vw vr room vk lost) (lo : N ≤ mb) (wo : W.ownsRow N 52 1 vw ws.length (wordsV ws)) (ro : W.ownsRow N 52 1 vr rs.length (wordsV rs))
    (ko : W.ownsRow N 3 1 vk' K'.length (intsV K')) (aw : vw.ownBlock ≠ some mb) (ar : vr.ownBlock ≠ some mb) (ak : vk'.ownBlock ≠ some mb) (wr : ∀ k, vw.ownBlock = some k → vr.ownBlock ≠ some k) (wk : ∀ k, vw.ownBlock = some k → vk'.ownBlock ≠ some k) (rk : ∀ k, vr.ownBlock = some k → vk'.ownBlock ≠ some k) :
    Mk (W.setCell ⟨mb, 3, none⟩ vk') N mb vw vr vk' ws rs K' room lost := by
  have hg := grown_set W mb 3 vk'
  exact ⟨h.set3 vk', lo, wo.kept hg (or_ne aw), ro.kept hg (or_ne ar), ko.kept hg (or_ne ak), aw, ar, ak, wr, wk, rk⟩

/-- One place less. -/
theorem Mk.pop {W : World} {N mb g cap n : Nat} {vw vr : Value} {ws rs K : List Int} {x : Int} {room : Nat} {lost : Bool} (h : Mk W N mb vw vr (.slice (some ⟨g, 0, none⟩) (n + 1) cap) ws rs (K ++ [x]) room lost) (hn : K.length = n) :
    Mk (W.setCell ⟨mb, 3, none⟩ (.slice (some ⟨g, 0, none⟩) n cap)) N mb vw vr (.slice (some ⟨g, 0, none⟩) n cap) ws rs K room lost := by
  refine Mk.setK h.box h.lo h.wo h.ro ?_ h.aw h.ar h.ak h.wr h.wk h.rk
  have := h.ko
  rw [intsV_snoc, List.length_append] at this
  subst hn
  exact ownsRow_pop (by simp [intsV]) this

/-- One place more: behind the append and the store. -/
theorem Mk.push {W w1 : World} {N mb : Nat} {vw vr vk v' : Value} {ws rs K : List Int} {x : Int} {room : Nat} {lost : Bool} (h : Mk W N mb vw vr vk ws rs K room lost) (hrow : w1.ownsRow N 3 1 v' (K.length + 1) (intsV K ++ [.int .i64 x])) (hg : W.grownBy w1 vk.ownBlock)
    (hat : v'.ownBlock = vk.ownBlock ∨ v'.ownBlock = some W.heap.size) : MBox w1 mb vw vr room vk lost ∧ Mk (w1.setCell ⟨mb, 3, none⟩ v') N mb vw vr v' ws rs (K ++ [x]) room lost := by
  have hbox : MBox w1 mb vw vr room vk lost := h.box.kept (hg.block _ h.box.lt (fun e => h.ak e.symm))
  have apart : ∀ {u : Value}, (∀ k, u.ownBlock = some k → k < W.heap.size) → (∀ k, u.ownBlock = some k → vk.ownBlock ≠ some k) → ∀ k, u.ownBlock = some k → v'.ownBlock ≠ some k := by
    intro u h1 h2 k hk e
    rcases hat with h | h
    · exact h2 k hk (h ▸ e)
    · rw [h] at e; injection e with e; have := h1 k hk; omega
  refine ⟨hbox, Mk.setK hbox h.lo (h.wo.kept hg ?_) (h.ro.kept hg ?_) ?_ h.aw h.ar ?_ h.wr (apart (fun k hk => (h.wo.lt k hk).2) h.wk) (apart (fun k hk => (h.ro.lt k hk).2) h.rk)⟩
  · cases hv : vw.ownBlock with
    | none => exact .inl rfl
    | some k => exact .inr fun e => h.wk k hv e.symm
  · cases hv : vr.ownBlock with
    | none => exact .inl rfl
    | some k => exact .inr fun e => h.rk k hv e.symm
  · rw [intsV_snoc, List.length_append]; exact hrow
  · rcases hat with h1 | h1
    · rw [h1]; exact h.ak
    · rw [h1]; intro e; injection e with e; have := h.box.lt; omega

/-- The words, where there are some. -/
theorem Mk.words {W : World} {N mb : Nat} {vw vr vk : Value} {ws rs K : List Int} {room : Nat} {lost : Bool} (h : Mk W N mb vw vr vk ws rs K room lost) (hne : 0 < ws.length) : ∃ wb cap, vw = .slice (some ⟨wb, 0, none⟩) ws.length cap ∧ N ≤ wb ∧ wb < W.heap.size ∧ ws.length ≤ cap := by
  rcases h.wo.2 with ⟨_, h0⟩ | ⟨g, cap, cur, hv, h1, h2, h3, h4, h5, h6⟩
  · omega
  · exact ⟨g, cap, hv, h1, (Array.getElem?_eq_some_iff.1 h2).1, h3⟩

theorem Mk.wcell {W : World} {N mb wb cap n : Nat} {vr vk : Value} {ws rs K : List Int} {room : Nat} {lost : Bool} (h : Mk W N mb (.slice (some ⟨wb, 0, none⟩) n cap) vr vk ws rs K room lost) (hn : n = ws.length) {j : Nat} {x : Int} (hx : ws[j]? = some x) :
    W.cell? ⟨wb, j, none⟩ = some (.int .u64 x) ∧ W.frozen? ⟨wb, j, none⟩ = false := by
  subst hn
  have hlt := (List.getElem?_eq_some_iff.1 hx).1
  refine ⟨?_, h.wo.frozenAt j⟩
  rw [h.wo.cellAt j (by omega)]
  simp [wordsV, hx]

theorem Mk.wds {W : World} {N mb : Nat} {vw vr vk : Value} {ws rs K : List Int} {room : Nat} {lost : Bool} (h : Mk W N mb vw vr vk ws rs K room lost) (hs : ws.length ≤ 256) : ∃ a cap, vw = .slice a ws.length cap ∧ Wds W.heap.size W a ws ∧ ws.length ≤ cap := by
  obtain ⟨a, cap, hv, hW, _⟩ := words_of_owns h.wo rfl (by omega)
  refine ⟨a, cap, hv, hW, ?_⟩
  rcases h.wo.2 with ⟨_, h0⟩ | ⟨g, cap', cur, hv', h1, h2, h3, h4, h5, h6⟩
  · omega
  · rw [hv] at hv'; injection hv' with _ _ e; omega

theorem Mk.rds {W : World} {N mb : Nat} {vw vr vk : Value} {ws rs K : List Int} {room : Nat} {lost : Bool} (h : Mk W N mb vw vr vk ws rs K room lost) (hs : rs.length ≤ 8) : ∃ a cap, vr = .slice a rs.length cap ∧ Wds W.heap.size W a rs := by
  obtain ⟨a, cap, hv, hW, _⟩ := words_of_owns h.ro rfl (by omega)
  exact ⟨a, cap, hv, hW⟩

/-- The last place that is kept. -/
theorem Mk.last {W : World} {N mb : Nat} {vw vr vk : Value} {ws rs K : List Int} {x : Int} {room : Nat} {lost : Bool} (h : Mk W N mb vw vr vk ws rs (K ++ [x]) room lost) : ∃ g cap, vk = .slice (some ⟨g, 0, none⟩) (K.length + 1) cap ∧ K.length + 1 ≤ cap ∧ g < W.heap.size ∧ W.cell? ⟨g, K.length, none⟩ = some (.int .i64 x) := by
  have hk := h.ko
  rw [List.length_append, List.length_singleton] at hk
  obtain ⟨g, cap, hv⟩ := ownsRow_succ hk
  subst hv
  have hb := hk.2
  rcases hb with ⟨h0, _⟩ | ⟨g', cap', cur, hv', h1, h2, h3, h4, h5, h6⟩
  · cases h0
  · refine ⟨g, cap, rfl, ?_, (hk.lt g rfl).2, ?_⟩
    · injection hv' with _ _ e; omega
    · rw [hk.cellAt K.length (by omega)]; simp [intsV]

end Go.Proofs.Ytngjakeofhmohaa

/- Walks: header, set, fields. -/
namespace Go.Proofs.Ytngjakeofhmohaa
set_option linter.unusedSimpArgs false
set_option linter.unusedVariables false
open Go.RowKit Go.Shelf

/-- A field of a header that a call told. -/
theorem field51_0 (l a : Int) (m : Bool) (w : World) : Sem.run Try.prog (Instr.field 68 (.agg #[.int .i64 l, .bool m, .int .i64 a]) 0) w = Result.ok (.int .i64 l) w := by
  simp [Instr.field, asAgg, go_sem, Try.underlying68]
theorem field51_1 (l a : Int) (m : Bool) (w : World) : Sem.run Try.prog (Instr.field 68 (.agg #[.int .i64 l, .bool m, .int .i64 a]) 1) w = Result.ok (.bool m) w := by
  simp [Instr.field, asAgg, go_sem, Try.underlying68]

set_option maxRecDepth 100000 in
set_option maxHeartbeats 1000000 in
theorem header_c (mb wb n cap p : Nat) (x : Int) (w : World) (h0 : w.cell? ⟨mb, 0, none⟩ = some (.slice (some ⟨wb, 0, none⟩) n cap)) (hx : w.cell? ⟨wb, p, none⟩ = some (.int .u64 x)) (hp : p < n) (hn : n ≤ 256) (h1 : 0 ≤ x) (h2 : x < 18446744073709551616) :
    Calls Try.prog 61 #[.pointer (some ⟨mb, 0, none⟩), .int .i64 (p : Nat)] w fun e w' => e = .returned (.agg #[.int .i64 (uhL x), .bool (uhM x), .int .i64 (uhA x)]) ∧ Below w.heap.size w w' := by
  have hb0 : Below w.heap.size w (w.alloc (.cells #[.int .i64 0, .bool false, .int .i64 0] 68)) := (Below.refl _ _).alloc (Nat.le_refl _) _
  have hlm : mb < w.heap.size := World.block_lt_of_cell? w _ h0
  have hlw : wb < w.heap.size := World.block_lt_of_cell? w _ hx
  have hpI : (p : Int) < (n : Int) := by omega
  go_enter Try.func61, Try.ntmps61
  go_wp2_with fail
  refine (unhead_c x _ h1 h2).mono ?_
  rintro e w2 ⟨rfl, hb2⟩
  simp only [World.size_alloc] at hb2
  have g0 := hb2.cell (p := ⟨w.heap.size, 0, none⟩) (show w.heap.size < _ by omega)
  have g1 := hb2.cell (p := ⟨w.heap.size, 1, none⟩) (show w.heap.size < _ by omega)
  have g2 := hb2.cell (p := ⟨w.heap.size, 2, none⟩) (show w.heap.size < _ by omega)
  have f0 := hb2.frozen (p := ⟨w.heap.size, 0, none⟩) (show w.heap.size < _ by omega)
  have f1 := hb2.frozen (p := ⟨w.heap.size, 1, none⟩) (show w.heap.size < _ by omega)
  have f2 := hb2.frozen (p := ⟨w.heap.size, 2, none⟩) (show w.heap.size < _ by omega)
  simp [go_sem] at g0 g1 g2 f0 f1 f2
  have hs2 := hb2.size
  simp only [World.size_alloc] at hs2
  have hlt2 : w.heap.size < w2.heap.size := by omega
  have hbw2 := hb0.trans (hb2.mono (by omega))
  clear hb0 hb2
  go_wp2
  obtain ⟨W3, hW3⟩ : ∃ W3, ((w2.setCell ⟨w.heap.size, 0, none⟩ (.int .i64 (uhL x))).setCell ⟨w.heap.size, 1, none⟩ (.bool (uhM x))).setCell ⟨w.heap.size, 2, none⟩ (.int .i64 (uhA x)) = W3 := ⟨_, rfl⟩
  have i0 : W3.cell? ⟨w.heap.size, 0, none⟩ = some (.int .i64 (uhL x)) := by rw [← hW3]; simp [go_sem, g0, g1, g2]
  have i1 : W3.cell? ⟨w.heap.size, 1, none⟩ = some (.bool (uhM x)) := by rw [← hW3]; simp [go_sem, g0, g1, g2]
  have i2 : W3.cell? ⟨w.heap.size, 2, none⟩ = some (.int .i64 (uhA x)) := by rw [← hW3]; simp [go_sem, g0, g1, g2]
  have hlt3 : w.heap.size < W3.heap.size := by rw [← hW3]; simpa [World.setCell] using hlt2
  have hb3 : Below w.heap.size w W3 := by rw [← hW3]; exact ((hbw2.setCell (p := ⟨w.heap.size, 0, none⟩) (Nat.le_refl _) _).setCell (p := ⟨w.heap.size, 1, none⟩) (Nat.le_refl _) _).setCell (p := ⟨w.heap.size, 2, none⟩) (Nat.le_refl _) _
  rw [hW3]
  clear hW3
  obtain ⟨W4, hW4⟩ : ∃ W4, W3.alloc (.cells #[.int .i64 (uhL x), .bool (uhM x), .int .i64 (uhA x)] 68) = W4 := ⟨_, rfl⟩
  rw [hW4]
  have hb4 : Below w.heap.size w W4 := by rw [← hW4]; exact hb3.alloc (by omega) _
  have k0 : W4.cell? ⟨w.heap.size, 0, none⟩ = some (.int .i64 (uhL x)) := by rw [← hW4, World.cell?_alloc_past _ _ _ hlt3]; exact i0
  have k1 : W4.cell? ⟨w.heap.size, 1, none⟩ = some (.bool (uhM x)) := by rw [← hW4, World.cell?_alloc_past _ _ _ hlt3]; exact i1
  have k2 : W4.cell? ⟨w.heap.size, 2, none⟩ = some (.int .i64 (uhA x)) := by rw [← hW4, World.cell?_alloc_past _ _ _ hlt3]; exact i2
  refine bodyPost_ret (v := .agg #[.int .i64 (uhL x), .bool (uhM x), .int .i64 (uhA x)]) (by simp [results, Try.results61, go_sem, k0, k1, k2]) rfl ?_
  exact ⟨rfl, hb4⟩

set_option maxRecDepth 100000 in
set_option maxHeartbeats 2000000 in
theorem set_w (mb wb n cap p : Nat) (x L A : Int) (M b : Bool) (w : World) (h0 : w.cell? ⟨mb, 0, none⟩ = some (.slice (some ⟨wb, 0, none⟩) n cap)) (hx : w.cell? ⟨wb, p, none⟩ = some (.int .u64 x)) (hf : w.frozen? ⟨wb, p, none⟩ = false) (hp : p < n) (hn : n ≤ 256) :
    Calls Try.prog 49 #[.pointer (some ⟨mb, 0, none⟩), .int .i64 (p : Nat), .agg #[.int .i64 L, .bool M, .int .i64 A], .bool b] w fun e w' => e = .returned (.tuple #[]) ∧ ∃ w1, Below w.heap.size w w1 ∧ w' = w1.setCell ⟨wb, p, none⟩ (.int .u64 (headW L b A)) := by
  have hlm : mb < w.heap.size := World.block_lt_of_cell? w _ h0
  have hlw : wb < w.heap.size := World.block_lt_of_cell? w _ hx
  have hpI : (p : Int) < (n : Int) := by omega
  have hb0 : Below w.heap.size w (w.alloc (.cells #[.int .i64 L, .bool b, .int .i64 A] 68)) := (Below.refl _ _).alloc (Nat.le_refl _) _
  go_enter Try.func49, Try.ntmps49
  go_wp2
  go_region_with (go_at_call 43; go_must (refine (head_c L A b _).mono ?_); go_must (rintro e w2 ⟨he, hb2⟩; subst he; have k0 := (hb2.cell (p := ⟨mb, 0, none⟩) (by simp; omega)).trans ((hb0.cell (p := ⟨mb, 0, none⟩) hlm).trans h0); have kx := (hb2.cell (p := ⟨wb, p, none⟩) (by simp; omega)).trans ((hb0.cell (p := ⟨wb, p, none⟩) hlw).trans hx); have kf := (hb2.frozen (p := ⟨wb, p, none⟩) (by simp; omega)).trans ((hb0.frozen (p := ⟨wb, p, none⟩) hlw).trans hf)))
  all_goals
    refine bodyPost_end (v := .tuple #[]) (results_none rfl _ _ _) rfl ⟨rfl, _, ?_, rfl⟩
    exact hb0.drew.trans (hb2.mono (by show w.heap.size ≤ (w.heap.push _).size; simp))

end Go.Proofs.Ytngjakeofhmohaa

/- Walks: unmarked. -/
namespace Go.Proofs.Ytngjakeofhmohaa
set_option linter.unusedSimpArgs false
set_option linter.unusedVariables false
open Go.RowKit Go.Shelf
attribute [local go_sem] field51_0 field51_1

/-- The arena that is being marked: its headers with these marks. -/
def mW (hs : List Int) (fs : List (List Int)) (p : Nat → Bool) : List Int := joinW (mkH hs p) fs

theorem mW_len {hs : List Int} {fs : List (List Int)} (h : Fit hs fs) (p : Nat → Bool) : (mW hs fs p).length = tot fs := by
  rw [mW, joinW_len _ _ (by rw [mkH_len]; exact h.len)]

theorem mW_get {hs : List Int} {fs : List (List Int)} (h : Fit hs fs) (p : Nat → Bool) {i : Nat} {x : Int} (hx : hs[i]? = some x) : (mW hs fs p)[tot (fs.take i)]? = some (reh (p i) x) := by
  have hi : i < fs.length := by have := (List.getElem?_eq_some_iff.1 hx).1; have := h.len; omega
  rw [mW, joinW_get _ _ _ (by rw [mkH_len]; exact h.len) hi, mkH_get, hx]
  rfl

theorem mW_set {hs : List Int} {fs : List (List Int)} (h : Fit hs fs) (p : Nat → Bool) {i : Nat} {x : Int} (hx : hs[i]? = some x) : (mW hs fs p).set (tot (fs.take i)) (reh true x) = mW hs fs (upd p i) := by
  have hi : i < fs.length := by have := (List.getElem?_eq_some_iff.1 hx).1; have := h.len; omega
  rw [mW, joinW_set _ _ _ _ (by rw [mkH_len]; exact h.len) hi, mkH_set hx, mW]

theorem place_lt {fs : List (List Int)} {i : Nat} (h : i < fs.length) : tot (fs.take i) < tot fs := by
  have h1 := tot_take_succ h
  have h2 := tot_take_le fs (i + 1)
  omega

theorem fit_at {hs : List Int} {fs : List (List Int)} (h : Fit hs fs) {i : Nat} (hi : i < fs.length) : ∃ x, hs[i]? = some x ∧ unheadOk x = true ∧ wlen x = fs[i].length ∧ 0 ≤ x ∧ x < 18446744073709551616 := by
  have hi' : i < hs.length := by have := h.len; omega
  exact ⟨hs[i], List.getElem?_eq_getElem hi', h.ok i _ _ (List.getElem?_eq_getElem hi') (List.getElem?_eq_getElem hi)⟩

/-- What unmarked tells: the first object that is not marked, to which words refer. -/
def UnRes (fs : List (List Int)) (p : Nat → Bool) (l : List Int) (e : Ending) : Prop :=
  (∃ j, j < fs.length ∧ p j = false ∧ To fs l j ∧ e = .returned (.tuple #[.int .i64 (tot (fs.take j) : Nat), .bool true])) ∨
    ((∀ j, To fs l j → p j = true) ∧ e = .returned (.tuple #[.int .i64 0, .bool false]))

set_option maxRecDepth 100000 in
set_option maxHeartbeats 2000000 in
theorem unmarked_c (a : Option Addr) (c : Nat) (l : List Int) (hs : List Int) (fs : List (List Int)) (p : Nat → Bool) (N mb : Nat) (vw vr vk : Value) (rs K : List Int) (room : Nat) (lost : Bool) (w : World)
    (hM : Mk w N mb vw vr vk (mW hs fs p) rs K room lost) (hF : Fit hs fs) (h256 : tot fs ≤ 256) (hl : Wds w.heap.size w a l) (hU : U64 l) (hlen : l.length ≤ 8) (hok : ∀ x ∈ l, okW (stF 0 fs) x = true) :
    Calls Try.prog 50 #[.pointer (some ⟨mb, 0, none⟩), .slice a l.length c] w fun e w' => UnRes fs p l e ∧ Below w.heap.size w w' := by
  have HM := hide hM
  have hlm := hM.box.lt
  clear hM
  go_enter Try.func50, Try.ntmps50
  go_wp2
  go_loopw [12] (fun i wr => ∃ k : Nat, k ≤ l.length ∧ i = .int .i64 k ∧ Hid (∀ j, To fs (l.take k) j → p j = true) ∧ Below w.heap.size w wr) (fun i _ => l.length - (intOf i).toNat)
  case atStart => exact ⟨0, Nat.zero_le _, rfl, hide (fun j h => by obtain ⟨x, hx, _⟩ := h; simp at hx), Below.refl _ _⟩
  case round =>
    obtain ⟨k, hk, rfl, Hdone, hb⟩ := hrel
    have hsz := hb.size
    by_cases hlt : k < l.length
    · obtain ⟨b, off, rfl, hbB, hc⟩ := (hl.below hb).at hlt
      have hu := hU _ (List.getElem_mem hlt)
      have Hx := hide (List.getElem_mem hlt)
      have Hok := hide (ok_ref (hok _ (List.getElem_mem hlt)))
      have HT := hide (show l.take (k + 1) = l.take k ++ [l[k]] from List.take_succ_eq_append_getElem hlt)
      have hkI : (k : Int) < (l.length : Int) := by omega
      generalize l[k] = x at *
      have hq : b < wr.heap.size := by omega
      cases hr : unRef x
      · have Hr := hide hr
        have HE := hide (unhide Hok).1
        have HN : Hid (∀ j, To fs (l.take (k + 1)) j → p j = true) := hide (fun j h => by
          obtain ⟨y, hy, h1, h2⟩ := h
          rw [unhide HT] at hy
          rcases List.mem_append.1 hy with hy | hy
          · exact unhide Hdone j ⟨y, hy, h1, h2⟩
          · simp at hy; subst hy; rw [unhide Hr] at h1; cases h1)
        clear hr Hok
        go_wp2_with (go_at_call 57; go_must (refine (unpack_c x _ hu.1 hu.2).mono ?_); go_must (rintro e w3 ⟨he, hb3⟩; rw [unhide Hr, unhide HE] at he; subst he; have hs3 := hb3.size))
        go_roundw
        case rel => exact ⟨k + 1, by omega, by go_num, HN, (hb.trans (hb3.mono hsz)).alloc (by omega) _⟩
        case measure => simp [intOf]; omega
      · obtain ⟨j, hj⟩ := (unhide Hok).2 hr
        have hjl : j < fs.length := by have := (List.getElem?_eq_some_iff.1 hj).1; rw [stF_len] at this; exact this
        have hj' := stF_get fs 0 j hjl
        rw [Nat.zero_add] at hj'
        have Hnum : Hid (unNum x = ((tot (fs.take j) : Nat) : Int)) := by
          have := hj.symm.trans hj'
          injection this
        have hpl := place_lt hjl
        obtain ⟨y, hy, hy1, _, hy3, hy4⟩ := fit_at hF hjl
        have Hto : Hid (To fs l j) := hide ⟨x, unhide Hx, hr, hj⟩
        have Huniq : Hid (∀ j', (stF 0 fs)[j']? = some (unNum x) → j' = j) := hide (fun j' h => st_inj h hj)
        have HE := hide (unhide Hok).1
        obtain ⟨wb, cap, hvw, hwN, hwb, hcap⟩ := (unhide HM).words (by rw [mW_len hF]; omega)
        have hml := mW_len hF p
        rw [hml] at hvw hcap
        subst hvw
        have Hh : Hid (∀ W, Below w.heap.size w W → Calls Try.prog 61 #[.pointer (some ⟨mb, 0, none⟩), .int .i64 (tot (fs.take j) : Nat)] W fun e w' => e = .returned (.agg #[.int .i64 (uhL (reh (p j) y)), .bool (uhM (reh (p j) y)), .int .i64 (uhA (reh (p j) y))]) ∧ Below W.heap.size W w') := fun W hbW => by
          have hr2 := reh_ok (p j) y
          have hMW := (unhide HM).below hbW
          exact header_c mb wb (tot fs) cap _ _ W hMW.box.c0 (hMW.wcell hml.symm (mW_get hF p hy)).1 hpl h256 hr2.2.2.2.2.1 hr2.2.2.2.2.2
        have Hm : Hid (uhM (reh (p j) y) = p j) := (reh_ok (p j) y).2.2.1
        rw [unhide Hm] at Hh
        have Hr := hide hr
        clear hr Hok hj hj' hy hml
        generalize hpe : tot (fs.take j) = pl at *
        have Hpe := hide hpe
        clear hpe
        cases hpj : p j
        · rw [hpj] at Hh
          have Hpj := hide hpj
          clear hpj
          go_wp2_with (first
            | (go_at_call 57; go_must (refine (unpack_c x _ hu.1 hu.2).mono ?_); go_must (rintro e w3 ⟨he, hb3⟩; rw [unhide Hr, unhide HE, unhide Hnum] at he; subst he; have hs3 := hb3.size))
            | (go_at_call 61; go_must (refine (unhide Hh _ ((hb.trans (hb3.mono hsz)).alloc (by omega) _)).mono ?_); go_must (rintro e w4 ⟨he, hb4⟩; subst he; have hs4 := hb4.size; simp only [World.size_alloc] at hs4; have g0 := hb4.cell (p := ⟨w3.heap.size, 0, none⟩) (by simp); have g1 := hb4.cell (p := ⟨w3.heap.size, 1, none⟩) (by simp); simp [go_sem] at g0 g1; have hq4 : w3.heap.size < w4.heap.size := by omega)))
          go_ret2
          exact ⟨.inl ⟨j, hjl, unhide Hpj, unhide Hto, by rw [unhide Hpe]; rfl⟩, ((hb.trans (hb3.mono hsz)).alloc (by omega) _).trans (hb4.mono (by simp; omega))⟩
        · rw [hpj] at Hh
          have HN : Hid (∀ j, To fs (l.take (k + 1)) j → p j = true) := hide (fun j' h => by
            obtain ⟨z, hz, h1, h2⟩ := h
            rw [unhide HT] at hz
            rcases List.mem_append.1 hz with hz | hz
            · exact unhide Hdone j' ⟨z, hz, h1, h2⟩
            · simp at hz; subst hz; rw [unhide Huniq j' h2]; exact hpj)
          clear hpj
          go_wp2_with (first
            | (go_at_call 57; go_must (refine (unpack_c x _ hu.1 hu.2).mono ?_); go_must (rintro e w3 ⟨he, hb3⟩; rw [unhide Hr, unhide HE, unhide Hnum] at he; subst he; have hs3 := hb3.size))
            | (go_at_call 61; go_must (refine (unhide Hh _ ((hb.trans (hb3.mono hsz)).alloc (by omega) _)).mono ?_); go_must (rintro e w4 ⟨he, hb4⟩; subst he; have hs4 := hb4.size; simp only [World.size_alloc] at hs4)))
          go_roundw
          case rel => exact ⟨k + 1, by omega, by go_num, HN, ((hb.trans (hb3.mono hsz)).alloc (by omega) _).trans (hb4.mono (by simp; omega))⟩
          case measure => simp [intOf]; omega
    · obtain rfl : k = l.length := by omega
      have HN := Hdone
      rw [List.take_length] at HN
      go_wp2
      go_ret2
      exact ⟨.inr ⟨unhide HN, rfl⟩, hb⟩

end Go.Proofs.Ytngjakeofhmohaa

/- Plain: the way back, in fields. -/
namespace Go.Proofs.Ytngjakeofhmohaa
set_option linter.unusedSimpArgs false
set_option linter.unusedVariables false
open Go.RowKit

/-- Another word in a field. -/
def setF (fs : List (List Int)) (i c : Nat) (x : Int) : List (List Int) := fs.set i ((fs.getD i []).set c x)

theorem tot_congr {fs gs : List (List Int)} (h : fs.map List.length = gs.map List.length) (k : Nat) : tot (fs.take k) = tot (gs.take k) := by
  have e : ∀ (l : List (List Int)), tot (l.take k) = (((l.map List.length).take k).map (· + 1)).sum := fun l => by
    rw [← List.map_take, List.map_map]; rfl
  rw [e, e, h]

theorem setF_lens (fs : List (List Int)) (i c : Nat) (x : Int) : (setF fs i c x).map List.length = fs.map List.length := by
  apply List.ext_getElem?
  intro k
  simp only [setF, List.getElem?_map, List.getElem?_set]
  by_cases e : i = k
  · subst e
    by_cases hi : i < fs.length
    · simp [hi]
    · simp [hi]
  · simp [e]

theorem setF_len (fs : List (List Int)) (i c : Nat) (x : Int) : (setF fs i c x).length = fs.length := by simp [setF]

theorem setF_same {fs : List (List Int)} {i c : Nat} {x : Int} {f : List Int} (hf : fs[i]? = some f) : (setF fs i c x)[i]? = some (f.set c x) := by
  have hi := (List.getElem?_eq_some_iff.1 hf).1
  unfold setF
  rw [List.getElem?_set, if_pos rfl, if_pos hi, List.getD_eq_getElem?_getD, hf]
  rfl

theorem setF_other {fs : List (List Int)} {i k c : Nat} {x : Int} (h : i ≠ k) : (setF fs i c x)[k]? = fs[k]? := by
  simp [setF, List.getElem?_set, h]

theorem setF_back {fs : List (List Int)} {i c : Nat} {x y : Int} {f : List Int} (hf : fs[i]? = some f) (hx : f[c]? = some x) : setF (setF fs i c y) i c x = fs := by
  have hi := (List.getElem?_eq_some_iff.1 hf).1
  have hc := (List.getElem?_eq_some_iff.1 hx).1
  apply List.ext_getElem?
  intro k
  by_cases e : i = k
  · subst e
    rw [setF_same (setF_same hf), hf, List.set_set]
    congr 1
    apply List.ext_getElem?
    intro m
    rw [List.getElem?_set]
    split
    · rename_i e
      subst e
      first | exact hx.symm | simpa [hc] using hx.symm
    · rfl
  · rw [setF_other e, setF_other e]

theorem joinW_setF : ∀ (hs : List Int) (fs : List (List Int)) (i c : Nat) (x : Int) (f : List Int), hs.length = fs.length → fs[i]? = some f → c < f.length → joinW hs (setF fs i c x) = (joinW hs fs).set (tot (fs.take i) + 1 + c) x
  | h :: hs, f :: fs, 0, c, x, g, _, hg, hc => by
    simp at hg
    subst hg
    have e : tot (List.take 0 (f :: fs)) + 1 + c = c + 1 := by simp [tot]; omega
    rw [e]
    simp only [setF, List.getD_cons_zero, List.set_cons_zero, joinW, List.set_cons_succ]
    rw [List.set_append_left _ _ hc]
  | h :: hs, f :: fs, i + 1, c, x, g, hl, hg, hc => by
    have ih := joinW_setF hs fs i c x g (by simpa using hl) (by simpa using hg) hc
    have e1 : setF (f :: fs) (i + 1) c x = f :: setF fs i c x := by simp [setF]
    rw [e1, List.take_succ_cons, tot_cons, show f.length + 1 + tot (fs.take i) + 1 + c = (f.length + (tot (fs.take i) + 1 + c)) + 1 from by omega]
    simp only [joinW, List.set_cons_succ]
    rw [List.set_append_right _ _ (by omega), show f.length + (tot (fs.take i) + 1 + c) - f.length = tot (fs.take i) + 1 + c from by omega, ih]
  | _, [], i, c, x, g, _, hg, _ => by simp at hg
  | [], f :: fs, i, c, x, g, h, _, _ => by simp at h

theorem joinW_field {hs : List Int} {fs : List (List Int)} {i c : Nat} {f : List Int} {x : Int} (hl : hs.length = fs.length) (hf : fs[i]? = some f) (hx : f[c]? = some x) : (joinW hs fs)[tot (fs.take i) + 1 + c]? = some x := by
  have h1 := joinW_fields hs fs i f hl hf
  have hc := (List.getElem?_eq_some_iff.1 hx).1
  rw [← h1, List.getElem?_take, if_pos hc, List.getElem?_drop] at hx
  exact hx

theorem fit_congr {hs : List Int} {fs gs : List (List Int)} (h : Fit hs fs) (e : fs.map List.length = gs.map List.length) : Fit hs gs := by
  have hl : fs.length = gs.length := by have := congrArg List.length e; simpa using this
  refine ⟨h.len.trans hl, fun k x g hx hg => ?_⟩
  have hk : k < fs.length := by have := (List.getElem?_eq_some_iff.1 hg).1; omega
  have h1 := h.ok k x fs[k] hx (List.getElem?_eq_getElem hk)
  have h2 : (fs.map List.length)[k]? = (gs.map List.length)[k]? := by rw [e]
  rw [List.getElem?_map, List.getElem?_map, hg, List.getElem?_eq_getElem hk] at h2
  simp only [Option.map_some, Option.some.injEq] at h2
  exact ⟨h1.1, by omega, h1.2.2⟩

/-- The way back from the object in which one is. -/
def bk (fs : List (List Int)) : List (Nat × Nat) → Int
  | [] => 1
  | (i, _) :: _ => 2 * ((tot (fs.take i) : Nat) : Int)

/-- The fields, while one is away: those by which one went have the way back. -/
def alt (fs : List (List Int)) : List (Nat × Nat) → List (List Int)
  | [] => fs
  | (i, c) :: s => setF (alt fs s) i c (bk fs s)

theorem alt_lens (fs : List (List Int)) : ∀ (s : List (Nat × Nat)), (alt fs s).map List.length = fs.map List.length
  | [] => rfl
  | (i, c) :: s => by rw [alt, setF_lens, alt_lens fs s]

theorem alt_len (fs : List (List Int)) (s : List (Nat × Nat)) : (alt fs s).length = fs.length := by
  have := congrArg List.length (alt_lens fs s)
  simpa using this

theorem alt_get {fs : List (List Int)} {k : Nat} : ∀ {s : List (Nat × Nat)}, k ∉ s.map Prod.fst → (alt fs s)[k]? = fs[k]?
  | [], _ => rfl
  | (i, c) :: s, h => by
    simp only [List.map_cons, List.mem_cons, not_or] at h
    rw [alt, setF_other (fun e => h.1 e.symm), alt_get h.2]

theorem alt_top {fs : List (List Int)} {i c : Nat} {s : List (Nat × Nat)} {f : List Int} (hi : i ∉ s.map Prod.fst) (hf : fs[i]? = some f) : (alt fs ((i, c) :: s))[i]? = some (f.set c (bk fs s)) :=
  setF_same ((alt_get hi).trans hf)

theorem alt_pop {fs : List (List Int)} {i c : Nat} {s : List (Nat × Nat)} {f : List Int} {x : Int} (hi : i ∉ s.map Prod.fst) (hf : fs[i]? = some f) (hx : f[c]? = some x) : setF (alt fs ((i, c) :: s)) i c x = alt fs s :=
  setF_back ((alt_get hi).trans hf) hx

/-- What is still to be gone through, behind the object in which one is. -/
def kF (A : List (List V)) : List (Nat × Nat) → List Nat → List Nat
  | [], L => L
  | (i, c) :: s, L => kF A s (dF A ((A.getD i []).drop (c + 1)) L)

/-- How far one is, at one more object. -/
def updF (F : Nat → Option Nat) (i c : Nat) : Nat → Option Nat := fun k => if k = i then some c else F k
theorem updF_same (F : Nat → Option Nat) (i c : Nat) : updF F i c i = some c := by simp [updF]
theorem updF_other {F : Nat → Option Nat} {i k c : Nat} (h : k ≠ i) : updF F i c k = F k := by simp [updF, h]

/-- How much is still to be done. -/
def mesF (fs : List (List Int)) (F : Nat → Option Nat) : Nat := ((List.range fs.length).map fun i => match F i with
  | none => (fs.getD i []).length + 1
  | some c => (fs.getD i []).length - c).sum

theorem sum_upd {g g' : Nat → Nat} {i : Nat} (ho : ∀ k, k ≠ i → g' k = g k) (hi : g' i + 1 = g i) : ∀ (n : Nat), (n ≤ i → ((List.range n).map g').sum = ((List.range n).map g).sum) ∧ (i < n → ((List.range n).map g').sum + 1 = ((List.range n).map g).sum)
  | 0 => ⟨fun _ => rfl, fun h => by omega⟩
  | n + 1 => by
    have ih := sum_upd ho hi n
    simp only [List.range_succ, List.map_append, List.sum_append, List.map_cons, List.map_nil, List.sum_cons, List.sum_nil]
    refine ⟨fun h => ?_, fun h => ?_⟩
    · rw [ih.1 (by omega), ho n (by omega)]
    · by_cases e : n = i
      · subst e
        rw [ih.1 (Nat.le_refl _)]; omega
      · rw [ho n e]
        have := ih.2 (by omega)
        omega

theorem mesF_enter {fs : List (List Int)} {F : Nat → Option Nat} {i : Nat} (hi : i < fs.length) (hF : F i = none) : mesF fs (updF F i 0) + 1 = mesF fs F := by
  refine (sum_upd (i := i) (fun k hk => ?_) ?_ fs.length).2 hi
  · simp only [updF_other hk]
  · simp only [updF_same, hF]; show (fs.getD i []).length - 0 + 1 = (fs.getD i []).length + 1; rw [Nat.sub_zero]

theorem mesF_step {fs : List (List Int)} {F : Nat → Option Nat} {i c : Nat} (hi : i < fs.length) (hF : F i = some c) (hc : c < (fs.getD i []).length) : mesF fs (updF F i (c + 1)) + 1 = mesF fs F := by
  refine (sum_upd (i := i) (fun k hk => ?_) ?_ fs.length).2 hi
  · simp only [updF_other hk]
  · simp only [updF_same, hF]; show (fs.getD i []).length - (c + 1) + 1 = (fs.getD i []).length - c; omega

theorem mesF_none (fs : List (List Int)) : mesF fs (fun _ => none) = tot fs := by
  unfold mesF tot
  congr 1
  apply List.ext_getElem?
  intro k
  by_cases hk : k < fs.length
  · simp [hk]
  · simp [hk]

/-- Each of those that one is away from refers to the next. -/
def Lk (fs : List (List Int)) : Nat → List (Nat × Nat) → Prop
  | _, [] => True
  | j, (i, c) :: s => (∃ f, fs[i]? = some f ∧ f[c]? = some (2 * ((tot (fs.take j) : Nat) : Int))) ∧ Lk fs i s

/-- What holds while one climbs: st are those that one is away from, u is the one in which one is. -/
structure CI (fs : List (List Int)) (A : List (List V)) (R0 : List Nat) (st : List (Nat × Nat)) (u c : Nat) (F : Nat → Option Nat) (O : List Nat) : Prop where
  nd : (u :: st.map Prod.fst).Nodup
  lt : u < fs.length
  cur : F u = some c
  le : c ≤ (fs.getD u []).length
  sF : ∀ i c, (i, c) ∈ st → F i = some c
  lk : Lk fs u st
  mem : ∀ j, j ∈ O ↔ (F j).isSome = true
  ol : ∀ j ∈ O, j < fs.length
  k : kF A st (dF A ((A.getD u []).drop c) O) = R0

theorem ref_word {x : Int} (h1 : 0 ≤ x) (h2 : x < 18446744073709551616) (he : unErr x = 0) (hr : unRef x = true) {p : Nat} (hp : unNum x = (p : Int)) : x = 2 * (p : Int) := by
  have h := pack_un x h1 h2 he
  rw [hr, hp] at h
  have h3 := h.1
  have h4 := h.2
  simp only [packE, packW, if_true] at h3 h4
  split at h3
  · omega
  · rename_i hn
    rw [if_neg hn] at h4
    omega

theorem getD_of {fs : List (List Int)} {i : Nat} {f : List Int} (h : fs[i]? = some f) : fs.getD i [] = f := by simp [h]

theorem CI.enter {fs : List (List Int)} {A : List (List V)} {R0 : List Nat} {st : List (Nat × Nat)} {u c j : Nat} {F : Nat → Option Nat} {O : List Nat} {f : List Int} (h : CI fs A R0 st u c F O) (hf : fs[u]? = some f) {v : V} (hv : (A.getD u [])[c]? = some v) (hr : v.1 = true) (hj : v.2 = (j : Int)) (hx : f[c]? = some (2 * ((tot (fs.take j) : Nat) : Int))) (hjl : j < fs.length) (hn : F j = none) :
    CI fs A R0 ((u, c) :: st) j 0 (updF F j 0) (O ++ [j]) := by
  have hju : j ≠ u := fun e => by rw [e, h.cur] at hn; cases hn
  have hjs : ∀ c, (j, c) ∉ st := fun c hc => by rw [h.sF j c hc] at hn; cases hn
  have hjO : j ∉ O := fun e => by have := (h.mem j).1 e; rw [hn] at this; cases this
  refine ⟨?_, hjl, updF_same _ _ _, Nat.zero_le _, ?_, ⟨⟨f, hf, hx⟩, h.lk⟩, ?_, ?_, ?_⟩
  · rw [List.nodup_cons]
    refine ⟨fun hm => ?_, h.nd⟩
    rcases List.mem_cons.1 hm with e | hm
    · exact hju e
    · obtain ⟨⟨a, b⟩, hab, e⟩ := List.mem_map.1 hm
      simp at e
      subst e
      exact hjs b hab
  · intro i d hid
    rcases List.mem_cons.1 hid with e | hid
    · injection e with e1 e2
      subst e1 e2
      rw [updF_other hju.symm]; exact h.cur
    · have : i ≠ j := fun e => by subst e; exact hjs d hid
      rw [updF_other this]; exact h.sF i d hid
  · intro k
    by_cases e : k = j
    · subst e; simp [updF_same]
    · rw [updF_other e, ← h.mem k]; simp [e]
  · intro k hk
    rcases List.mem_append.1 hk with hk | hk
    · exact h.ol k hk
    · simp at hk; subst hk; exact hjl
  · rw [← h.k, List.drop_zero]
    have hc := (List.getElem?_eq_some_iff.1 hv).1
    have hd : (A.getD u []).drop c = v :: (A.getD u []).drop (c + 1) := by
      rw [List.drop_eq_getElem_cons hc]
      congr 1
      have := List.getElem?_eq_getElem hc
      rw [this] at hv
      injection hv
    have hnw : nw O v = true := nw_iff.2 ⟨hr, by rw [hj]; simpa using hjO⟩
    rw [hd, dF_new _ hnw, hj]
    rfl

theorem CI.skip {fs : List (List Int)} {A : List (List V)} {R0 : List Nat} {st : List (Nat × Nat)} {u c : Nat} {F : Nat → Option Nat} {O : List Nat} (h : CI fs A R0 st u c F O) {v : V} (hv : (A.getD u [])[c]? = some v) (hn : nw O v = false) (hc : c < (fs.getD u []).length) :
    CI fs A R0 st u (c + 1) (updF F u (c + 1)) O := by
  have hus : ∀ i d, (i, d) ∈ st → i ≠ u := fun i d hid e => by
    have := (List.nodup_cons.1 h.nd).1
    exact this (List.mem_map.2 ⟨(i, d), hid, e⟩)
  refine ⟨h.nd, h.lt, updF_same _ _ _, hc, fun i d hid => by rw [updF_other (hus i d hid)]; exact h.sF i d hid, h.lk, fun j => ?_, h.ol, ?_⟩
  · by_cases e : j = u
    · subst e
      rw [h.mem, h.cur]; simp [updF_same]
    · rw [updF_other e]; exact h.mem j
  · rw [← h.k]
    have hc := (List.getElem?_eq_some_iff.1 hv).1
    have hd : (A.getD u []).drop c = v :: (A.getD u []).drop (c + 1) := by
      rw [List.drop_eq_getElem_cons hc]
      congr 1
      have := List.getElem?_eq_getElem hc
      rw [this] at hv
      injection hv
    rw [hd, dF_old _ hn]

theorem CI.pop {fs : List (List Int)} {A : List (List V)} {R0 : List Nat} {st : List (Nat × Nat)} {u c i d : Nat} {F : Nat → Option Nat} {O : List Nat} (h : CI fs A R0 ((i, d) :: st) u c F O) (hl : (A.getD u []).length ≤ c) (hA : ∀ i, (A.getD i []).length = (fs.getD i []).length) :
    CI fs A R0 st i (d + 1) (updF F i (d + 1)) O ∧ F i = some d ∧ i < fs.length ∧ d < (fs.getD i []).length ∧ i ∉ st.map Prod.fst ∧ ∃ f, fs[i]? = some f ∧ f[d]? = some (2 * ((tot (fs.take u) : Nat) : Int)) := by
  have hnd := List.nodup_cons.1 h.nd
  simp only [List.map_cons] at hnd
  have hnd2 := List.nodup_cons.1 hnd.2
  have hFi := h.sF i d (by simp)
  obtain ⟨⟨f, hf, hx⟩, hlk⟩ := h.lk
  have hil := (List.getElem?_eq_some_iff.1 hf).1
  have hdl := (List.getElem?_eq_some_iff.1 hx).1
  have hfd : fs.getD i [] = f := getD_of hf
  have hus : ∀ k e, (k, e) ∈ st → k ≠ i := fun k e hke e' => hnd2.1 (List.mem_map.2 ⟨(k, e), hke, e'⟩)
  refine ⟨⟨hnd.2, hil, updF_same _ _ _, by rw [hfd]; omega, fun k e hke => by rw [updF_other (hus k e hke)]; exact h.sF k e (by simp [hke]), hlk, fun j => ?_, h.ol, ?_⟩, hFi, hil, by rw [hfd]; omega, hnd2.1, f, hf, hx⟩
  · by_cases e : j = i
    · subst e
      rw [h.mem, hFi]; simp [updF_same]
    · rw [updF_other e]; exact h.mem j
  · rw [← h.k, List.drop_of_length_le hl, dF_nil]
    rfl

theorem CI.done {fs : List (List Int)} {A : List (List V)} {R0 : List Nat} {u c : Nat} {F : Nat → Option Nat} {O : List Nat} (h : CI fs A R0 [] u c F O) (hl : (A.getD u []).length ≤ c) : O = R0 := by
  rw [← h.k, List.drop_of_length_le hl, dF_nil]
  rfl

/-- At the beginning. -/
theorem CI.start {fs : List (List Int)} {A : List (List V)} {u : Nat} {F : Nat → Option Nat} {O : List Nat} (hu : u < fs.length) (hn : F u = none) (hm : ∀ j, j ∈ O ↔ (F j).isSome = true) (hl : ∀ j ∈ O, j < fs.length) :
    CI fs A (dF A (A.getD u []) (O ++ [u])) [] u 0 (updF F u 0) (O ++ [u]) := by
  refine ⟨by simp, hu, updF_same _ _ _, Nat.zero_le _, by simp, trivial, fun k => ?_, fun k hk => ?_, rfl⟩
  · by_cases e : k = u
    · subst e; simp [updF_same]
    · rw [updF_other e, ← hm k]; simp [e]
  · rcases List.mem_append.1 hk with hk | hk
    · exact hl k hk
    · simp at hk; subst hk; exact hu

end Go.Proofs.Ytngjakeofhmohaa
