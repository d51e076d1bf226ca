/- Plain: who keeps an object at once. -/
import Derived.Test.YtkoidbekfjlfjaaKf
import Derived.Test.YtkoidbekfjlfjaaDh
namespace Go.Proofs.Ytkoidbekfjlfjaa
set_option linter.unusedSimpArgs false
set_option linter.unusedVariables false

theorem left_all {g : Gr} (h : Good g) {x : Int} : x ∈ leftL g (-1) ↔ x ∈ orderOf g := by
  constructor
  · exact left_sub h
  · exact order_ind h (fun x => x ∈ leftL g (-1)) (fun x hx => left_roots h hx (by have := (h.roots x hx).1; omega)) (fun x y _ hp hy => left_next h hp hy (by have := (refs_rng h x y hy).1; omega)) x

theorem back_all {g : Gr} (h : Good g) {x : Int} : x ∈ backL g (-1) ↔ x ∈ orderOf g := (back_mem h (-1) x).trans (left_all h)

theorem back_rng {g : Gr} (h : Good g) : ∀ x ∈ backL g (-1), 0 ≤ x ∧ x < (g.objs.length : Int) := fun x hx => order_ok h ((back_all h).1 hx)
theorem back_cl {g : Gr} (h : Good g) : ∀ x ∈ backL g (-1), ∀ y ∈ refsL (fieldsOf g x), y ∈ backL g (-1) := fun x hx y hy => (back_all h).2 (order_closed h ((back_all h).1 hx) y hy)
theorem back_rt {g : Gr} (h : Good g) : ∀ y ∈ refsL g.roots, y ∈ backL g (-1) := fun y hy => (back_all h).2 (order_roots g y hy)

/-- Each has one that refers to it out of which one goes back later. -/
theorem back_par {g : Gr} (h : Good g) {m : Nat} (hm : m < (backL g (-1)).length) : ∃ p, m < p ∧ EG g (backL g (-1)) p m := by
  rcases (way_vis h (-1)).cau m _ (List.getElem?_eq_getElem hm) with e | ⟨j, o, hj, ho, e⟩
  · exact ⟨_, hm, hm, .inr ⟨rfl, e⟩⟩
  · obtain ⟨hjl, rfl⟩ := List.getElem?_eq_some_iff.1 ho
    exact ⟨j, hj, hm, .inl ⟨hjl, e⟩⟩

theorem nd_inj {l : List Int} (hnd : l.Nodup) {i j : Nat} (hi : i < l.length) (hj : j < l.length) (h : l[i] = l[j]) : i = j := by
  refine (List.getElem?_inj hi hnd).1 ?_
  rw [List.getElem?_eq_getElem hi, List.getElem?_eq_getElem hj, h]

/-- To be come to without x, by numbers, is to be left without its object. -/
theorem av_left {g : Gr} (h : Good g) {n x : Nat} (hn : n < (backL g (-1)).length) (hx : x < (backL g (-1)).length) :
    Av (EG g (backL g (-1))) (backL g (-1)).length x n ↔ (backL g (-1))[n] ∈ leftL g (backL g (-1))[x] := by
  have hnd := back_nodup h (-1)
  have hall : ∀ y ∈ orderOf g, y ∈ backL g (-1) := fun y hy => (back_all h).2 hy
  generalize backL g (-1) = ord at *
  constructor
  · intro ha
    have := ha (fun m => m = ord.length ∨ ∃ hm : m < ord.length, ord[m] ∈ leftL g ord[x]) (fun _ => .inl rfl) (by
      rintro p m hp ⟨hm, ⟨hpl, he⟩ | ⟨_, he⟩⟩ hmx
      · rcases hp with e | ⟨_, e⟩
        · omega
        · exact .inr ⟨hm, left_next h e he (fun e => hmx (nd_inj hnd hm hx e))⟩
      · exact .inr ⟨hm, left_roots h he (fun e => hmx (nd_inj hnd hm hx e))⟩)
    rcases this with e | ⟨_, e⟩
    · omega
    · exact e
  · intro ha
    refine left_ind h (wo := ord[x]) (fun o => ∀ n, (hn : n < ord.length) → ord[n] = o → Av (EG g ord) ord.length x n) (fun o ho hne n hn e => ?_) (fun o y ho hp hy hne n hn e => ?_) _ ha n hn rfl
    · subst e
      exact (Av.root (by omega)).next ⟨hn, .inr ⟨rfl, ho⟩⟩ (fun e => hne (by subst e; rfl))
    · subst e
      obtain ⟨p, hp2, hpo⟩ := List.mem_iff_getElem.1 (hall o (left_sub h ho))
      exact (hp p hp2 hpo).next ⟨hn, .inl ⟨hp2, by rw [hpo]; exact hy⟩⟩ (fun e => hne (by subst e; rfl))

theorem ret_order {g : Gr} (h : Good g) {v i : Int} (hi : i ∈ retL g v) : v ∈ orderOf g := by
  rw [mem_ret] at hi
  refine Classical.byContradiction fun hc => hi.2 ?_
  refine order_ind h (fun x => x ∈ leftL g v) (fun x hx => left_roots h hx (fun e => hc (by rw [← e]; exact order_roots g x hx))) (fun x y hx hp hy => left_next h hp hy (fun e => hc (by rw [← e]; exact order_closed h hx y hy))) i hi.1

theorem ret_trans {g : Gr} (h : Good g) {v u i : Int} (h1 : u ∈ retL g v) (h2 : i ∈ retL g u) : i ∈ retL g v := by
  rw [mem_ret] at h1 h2 ⊢
  refine ⟨h2.1, fun hc => h2.2 ?_⟩
  refine left_ind h (wo := v) (fun x => x ∈ leftL g u) (fun x hx' hn => ?_) (fun x y hx' hp hy hn => ?_) i hc
  · by_cases e : x = u
    · subst e; exact absurd (left_roots h hx' hn) h1.2
    · exact left_roots h hx' e
  · by_cases e : y = u
    · subst e; exact absurd (left_next h hx' hy hn) h1.2
    · exact left_next h hp hy e

theorem ret_anti {g : Gr} (h : Good g) {v u : Int} (h1 : u ∈ retL g v) (h2 : v ∈ retL g u) : v = u := by
  refine Classical.byContradiction fun hne => ?_
  rw [mem_ret] at h1 h2
  have := order_ind h (fun x => x ∈ leftL g v ∧ x ∈ leftL g u) (fun x hx => ?_) (fun x y hx hp hy => ?_) v h2.1
  · exact left_ne h this.1 rfl
  · by_cases e : x = v
    · subst e; exact absurd (left_roots h hx hne) h2.2
    · by_cases e2 : x = u
      · subst e2; exact absurd (left_roots h hx e) h1.2
      · exact ⟨left_roots h hx e, left_roots h hx e2⟩
  · by_cases e : y = v
    · subst e; exact absurd (left_next h hp.2 hy hne) h2.2
    · by_cases e2 : y = u
      · subst e2; exact absurd (left_next h hp.1 hy e) h1.2
      · exact ⟨left_next h hp.1 hy e, left_next h hp.2 hy e2⟩

/-- Of two that keep one object, one keeps the other. -/
theorem ret_lin {g : Gr} (h : Good g) {v u i : Int} (h1 : i ∈ retL g v) (h2 : i ∈ retL g u) : v ∈ retL g u ∨ u ∈ retL g v := by
  rcases nested h v u with e | e | e
  · exact .inl (e v ((ret_self h v).2 (ret_order h h1)))
  · exact .inr (e u ((ret_self h u).2 (ret_order h h2)))
  · exact absurd h2 (e i h1)

/-- What is told of who keeps an object at once. -/
def Near (g : Gr) (i d : Int) : Prop := (i ∉ orderOf g ∧ d = -2) ∨ (i ∈ orderOf g ∧ ((d = -1 ∧ ∀ v, i ∈ retL g v → v = i) ∨ (d ≠ i ∧ i ∈ retL g d ∧ ∀ v, i ∈ retL g v → v ≠ i → d ∈ retL g v)))

theorem ret_nonneg {g : Gr} (h : Good g) {v i : Int} (hi : i ∈ retL g v) : 0 ≤ v ∧ v < (g.objs.length : Int) := order_ok h (ret_order h hi)

theorem near_one {g : Gr} (h : Good g) {i d d' : Int} (h1 : Near g i d) (h2 : Near g i d') : d = d' := by
  rcases h1 with ⟨a, rfl⟩ | ⟨a, h1⟩
  · rcases h2 with ⟨b, rfl⟩ | ⟨b, h2⟩
    · rfl
    · exact absurd b a
  · rcases h2 with ⟨b, rfl⟩ | ⟨b, h2⟩
    · exact absurd a b
    · rcases h1 with ⟨rfl, h1⟩ | ⟨n1, k1, h1⟩
      · rcases h2 with ⟨rfl, h2⟩ | ⟨n2, k2, h2⟩
        · rfl
        · exact absurd (h1 _ k2) n2
      · rcases h2 with ⟨rfl, h2⟩ | ⟨n2, k2, h2⟩
        · exact absurd (h2 _ k1) n1
        · exact ret_anti h (h1 _ k2 n2 |> fun e => (h2 _ k1 n1)) (h1 _ k2 n2)

/-- What Idom tells of an object, by the keepers. -/
def idomAt (ord K : List Int) (i : Int) : Int := if i ∈ ord then (if K.getD (ord.idxOf i) 0 < (ord.length : Int) then ord.getD (K.getD (ord.idxOf i) 0).toNat 0 else -1) else -2
def idomL (N : Nat) (ord K : List Int) : List Int := (List.range N).map fun (i : Nat) => idomAt ord K i

theorem idom_near {g : Gr} (h : Good g) {K : List Int} (hK : KSt (fromL g (backL g (-1))) 0 K) (hfix : ∀ n, n < (fromL g (backL g (-1))).length → FixAt (fromL g (backL g (-1))) K n) (i : Int) : Near g i (idomAt (backL g (-1)) K i) := by
  have hnd := back_nodup h (-1)
  have hcl := back_cl h
  have hrt := back_rt h
  have hlen := fromL_len g (backL g (-1))
  have hE : Eof (fromL g (backL g (-1))) = EG g (backL g (-1)) := by
    funext p m; exact propext (eof_eg hnd hcl hrt p m)
  have hEb : ∀ p m, Eof (fromL g (backL g (-1))) p m → p ≤ (fromL g (backL g (-1))).length ∧ m < (fromL g (backL g (-1))).length := by
    intro p m he
    rw [hE] at he
    rw [hlen]
    obtain ⟨hm, ⟨hp, _⟩ | ⟨hp, _⟩⟩ := he
    · exact ⟨by omega, hm⟩
    · exact ⟨by omega, hm⟩
  have hfin : ∀ n x, n < (backL g (-1)).length → x < (backL g (-1)).length → ∀ (hn : n < (backL g (-1)).length) (hx : x < (backL g (-1)).length), Anc (kf K) n x ↔ (backL g (-1))[n] ∈ retL g (backL g (-1))[x] := by
    intro n x _ _ hn hx
    rw [hK.ok.fin hEb hfix (by rw [hlen]; exact hn) x, hE, hlen, av_left h hn hx, mem_ret]
    exact ⟨fun e => ⟨(back_all h).1 (List.getElem_mem hn), e⟩, fun e => e.2⟩
  have hKl := hK.len
  have hall : ∀ y, y ∈ orderOf g ↔ y ∈ backL g (-1) := fun y => (back_all h).symm
  unfold idomAt
  rw [hlen] at hKl
  have hok := hK.ok
  rw [hlen] at hok
  clear hfix hK hEb
  generalize backL g (-1) = ord at *
  by_cases hi : i ∈ ord
  · rw [if_pos hi]
    have hn : ord.idxOf i < ord.length := List.idxOf_lt_length_iff.2 hi
    have hni : ord[ord.idxOf i] = i := List.getElem_idxOf hn
    generalize ord.idxOf i = n at *
    have hnK : n < K.length := by omega
    have hkn : kk K n := hok.seen n (Nat.zero_le _) (by omega)
    have hKn : K.getD n 0 = ((kf K n : Nat) : Int) := by
      rw [List.getD_eq_getElem?_getD, List.getElem?_eq_getElem hnK]
      exact kf_get hnK hkn
    rw [hKn]
    have hup := hok.up n hn hkn
    have hbk := hok.bnd _ hup.2
    refine .inr ⟨(hall i).2 hi, ?_⟩
    have hkeep : ∀ v, i ∈ retL g v → v ≠ i → ∃ (x : Nat) (hx : x < ord.length), ord[x] = v ∧ Anc (kf K) (kf K n) x := by
      intro v hv hne
      obtain ⟨x, hx, hxv⟩ := List.mem_iff_getElem.1 ((hall v).1 (ret_order h hv))
      refine ⟨x, hx, hxv, ?_⟩
      rcases anc_iff.1 ((hfin n x hn hx hn hx).2 (by rw [hni, hxv]; exact hv)) with e | e
      · subst e; exact absurd (hxv.symm.trans hni) hne
      · exact e
    by_cases hlt : kf K n < ord.length
    · rw [if_pos (by omega)]
      have e : ord.getD ((kf K n : Nat) : Int).toNat 0 = ord[kf K n] := by simp [hlt]
      rw [e]
      refine .inr ⟨fun e2 => ?_, ?_, fun v hv hne => ?_⟩
      · have := nd_inj hnd hlt hn (e2.trans hni.symm)
        omega
      · have := (hfin n (kf K n) hn hlt hn hlt).1 (Anc.refl _ _).step
        rwa [hni] at this
      · obtain ⟨x, hx, hxv, ha⟩ := hkeep v hv hne
        have := (hfin (kf K n) x hlt hx hlt hx).1 ha
        rwa [hxv] at this
    · rw [if_neg (by omega)]
      refine .inl ⟨rfl, fun v hv => Classical.byContradiction fun hne => ?_⟩
      obtain ⟨x, hx, hxv, ha⟩ := hkeep v hv hne
      have e : kf K n = ord.length := by omega
      rw [e] at ha
      have := ha.fix hok.top
      omega
  · rw [if_neg hi]
    exact .inl ⟨fun e => hi ((hall i).1 e), rfl⟩

end Go.Proofs.Ytkoidbekfjlfjaa
