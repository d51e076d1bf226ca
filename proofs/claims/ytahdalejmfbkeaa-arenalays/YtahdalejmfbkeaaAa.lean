/- Plain: arenas as rows of words, and words in memory. -/
import Derived.Test.YtahdalejmfbkeaaVf
import Derived.Test.YtahdalejmfbkeaaWz
import Derived.Test.YtahdalejmfbkeaaRa
namespace Go.Proofs.Ytahdalejmfbkeaa
set_option linter.unusedSimpArgs false
set_option linter.unusedVariables false
open Go.RowKit

/-- Words of 64 bits. -/
def U64 (l : List Int) : Prop := ∀ x ∈ l, 0 ≤ x ∧ x < 18446744073709551616

theorem U64.drop {l : List Int} (h : U64 l) (n : Nat) : U64 (l.drop n) := fun x hx => h x (List.mem_of_mem_drop hx)
theorem U64.take {l : List Int} (h : U64 l) (n : Nat) : U64 (l.take n) := fun x hx => h x (List.mem_of_mem_take hx)

/-- A slice of words, below block B. -/
def Wds (B : Nat) (w : World) (a : Option Addr) (l : List Int) : Prop :=
  l.length ≤ 9223372036854775807 ∧ (l ≠ [] → ∃ b off, a = some ⟨b, off, none⟩ ∧ b < B ∧ ∀ k v, l[k]? = some v → w.cell? ⟨b, off + k, none⟩ = some (.int .u64 v))

theorem Wds.below {B : Nat} {w w' : World} {a : Option Addr} {l : List Int} (h : Wds B w a l) (hb : Below B w w') : Wds B w' a l := by
  refine ⟨h.1, fun hne => ?_⟩
  obtain ⟨b, off, rfl, hB, hc⟩ := h.2 hne
  refine ⟨b, off, rfl, hB, fun k v hk => ?_⟩
  rw [hb.cell (p := ⟨b, off + k, none⟩) hB]
  exact hc k v hk

theorem Wds.mono {B B' : Nat} {w : World} {a : Option Addr} {l : List Int} (h : Wds B w a l) (hb : B ≤ B') : Wds B' w a l := by
  refine ⟨h.1, fun hne => ?_⟩
  obtain ⟨b, off, rfl, hB, hc⟩ := h.2 hne
  exact ⟨b, off, rfl, by omega, hc⟩

theorem Wds.at {B : Nat} {w : World} {a : Option Addr} {l : List Int} (h : Wds B w a l) {k : Nat} (hk : k < l.length) :
    ∃ b off, a = some ⟨b, off, none⟩ ∧ b < B ∧ w.cell? ⟨b, off + k, none⟩ = some (.int .u64 l[k]) := by
  obtain ⟨b, off, rfl, hB, hc⟩ := h.2 (by intro e; subst e; simp at hk)
  exact ⟨b, off, rfl, hB, hc k l[k] (by simp [hk])⟩

/-- A part of a slice of words. -/
theorem Wds.sub {B b off : Nat} {w : World} {l : List Int} (h : Wds B w (some ⟨b, off, none⟩) l) (p n : Nat) : Wds B w (some ⟨b, off + p, none⟩) ((l.drop p).take n) := by
  refine ⟨by have := h.1; simp only [List.length_take, List.length_drop]; omega, fun hne => ?_⟩
  obtain ⟨b', off', e, hB, hc⟩ := h.2 (by intro e; subst e; simp at hne)
  injection e with e
  injection e with e1 e2
  subst e1 e2
  refine ⟨b, off + p, rfl, hB, fun k v hk => ?_⟩
  rw [List.getElem?_take] at hk
  split at hk
  · rw [List.getElem?_drop] at hk
    rw [Nat.add_assoc]
    exact hc _ v hk
  · cases hk

def wordsV (l : List Int) : List Value := l.map (Value.int .u64)
theorem wordsV_snoc (l : List Int) (x : Int) : wordsV (l ++ [x]) = wordsV l ++ [.int .u64 x] := by simp [wordsV]
theorem wordsV_append (l m : List Int) : wordsV (l ++ m) = wordsV l ++ wordsV m := by simp [wordsV]
theorem wordsV_len (l : List Int) : (wordsV l).length = l.length := by simp [wordsV]

theorem words_of_owns {w : World} {base : Nat} {e : TypeId} {v : Value} {n : Nat} {l : List Int} (h : w.ownsRow base e 1 v n (wordsV l)) (hn : n = l.length) (hs : n ≤ 9223372036854775807) :
    ∃ a cap, v = .slice a l.length cap ∧ Wds w.heap.size w a l ∧ Hid (∀ b off, a = some ⟨b, off, none⟩ → base ≤ b) := by
  obtain ⟨_, h2⟩ := h
  rcases h2 with ⟨rfl, h0⟩ | ⟨g, cap, cur, rfl, hb, hg, hc1, hc2, hc3, htake⟩
  · refine ⟨none, 0, by rw [← hn, h0], ⟨by omega, fun hne => ?_⟩, hide (fun b off e => by cases e)⟩
    have : l = [] := List.eq_nil_of_length_eq_zero (by omega)
    exact absurd this hne
  · refine ⟨_, cap, by rw [hn], ⟨by omega, fun _ => ⟨g, 0, rfl, (Array.getElem?_eq_some_iff.1 hg).1, fun k v hk => ?_⟩⟩, hide (fun b off e => by injection e with e; injection e with e1; omega)⟩
    have h1 : (wordsV l)[k]? = some (.int .u64 v) := by simp [wordsV, hk]
    rw [← htake, List.getElem?_take] at h1
    split at h1
    · rw [Nat.zero_add, cell_of_row w g k cur e (0, 0) hg]; simpa using h1
    · cases h1

/-- Words that do not lie in block x. -/
def WdsN (x : Option Nat) (W : World) (a : Option Addr) (l : List Int) : Prop :=
  Wds W.heap.size W a l ∧ (l ≠ [] → ∀ b off, a = some ⟨b, off, none⟩ → x ≠ some b)

theorem WdsN.grown {x : Option Nat} {W W' : World} {a : Option Addr} {l : List Int} (h : WdsN x W a l) (hg : W.grownBy W' x) : WdsN x W' a l := by
  refine ⟨⟨h.1.1, fun hne => ?_⟩, h.2⟩
  obtain ⟨b, off, rfl, hB, hc⟩ := h.1.2 hne
  have hne' := h.2 hne b off rfl
  have hblk := hg.block b hB (fun e => hne' e.symm)
  refine ⟨b, off, rfl, by have := hg.size; omega, fun k v hk => ?_⟩
  rw [World.cell?_of_block (a := ⟨b, off + k, none⟩) hblk]
  exact hc k v hk

theorem WdsN.below {x : Option Nat} {W W' : World} {a : Option Addr} {l : List Int} (h : WdsN x W a l) (hb : Below W.heap.size W W') : WdsN x W' a l :=
  ⟨(h.1.below hb).mono hb.size, h.2⟩

theorem WdsN.fresh {x : Option Nat} {W : World} {a : Option Addr} {l : List Int} (h : WdsN x W a l) {y : Option Nat} (hy : y = x ∨ ∃ m, y = some m ∧ W.heap.size ≤ m) : WdsN y W a l := by
  refine ⟨h.1, fun hne b off ha => ?_⟩
  rcases hy with rfl | ⟨m, rfl, hm⟩
  · exact h.2 hne b off ha
  · obtain ⟨b', off', ha', hB, _⟩ := h.1.2 hne
    rw [ha] at ha'
    injection ha' with ha'
    injection ha' with h1
    subst h1
    intro e
    injection e
    omega

/-- Behind an append to another row. -/
theorem WdsN.append {x y : Option Nat} {W W' : World} {a : Option Addr} {l : List Int} (h : WdsN x W a l) (hg : W.grownBy W' x) (hat : y = x ∨ y = some W.heap.size) : WdsN y W' a l :=
  ⟨(h.grown hg).1, (h.fresh (by rcases hat with e | e; · exact .inl e
                                · exact .inr ⟨_, e, Nat.le_refl _⟩)).2⟩

theorem ownsRow_below {W W' : World} {base : Nat} {e : TypeId} {size : Nat} {v : Value} {n : Nat} {xs : List Value} (h : W.ownsRow base e size v n xs) (hb : Below W.heap.size W W') : W'.ownsRow base e size v n xs :=
  h.kept (row := none) ⟨hb.os, hb.tape, hb.output, hb.size, fun k hk _ => hb.block k hk⟩ (by cases hv : v.ownBlock <;> simp)

/-- How many fields a header has. -/
def wlen (x : Int) : Nat := (x % 256).toNat

theorem uhL_wlen {x : Int} (h : unheadOk x = true) : uhL x = (wlen x : Int) := by
  unfold uhL wlen
  rw [if_pos h]
  omega

theorem wlen_le {x : Int} (h : unheadOk x = true) : wlen x ≤ 4 := by
  simp [unheadOk] at h
  unfold wlen
  omega

/-- How many words objects take. -/
def tot {α : Type} (fs : List (List α)) : Nat := (fs.map fun f => f.length + 1).sum

theorem tot_nil {α : Type} : tot ([] : List (List α)) = 0 := rfl
theorem tot_cons {α : Type} (f : List α) (fs : List (List α)) : tot (f :: fs) = f.length + 1 + tot fs := by simp [tot]
theorem tot_snoc {α : Type} (fs : List (List α)) (f : List α) : tot (fs ++ [f]) = tot fs + (f.length + 1) := by simp [tot]
theorem tot_len {α : Type} : ∀ (fs : List (List α)), fs.length ≤ tot fs
  | [] => by simp [tot]
  | f :: fs => by have := tot_len fs; rw [tot_cons]; simp; omega
theorem tot_flat {α : Type} : ∀ (fs : List (List α)), fs.flatten.length + fs.length = tot fs
  | [] => by simp [tot]
  | f :: fs => by have := tot_flat fs; rw [tot_cons, List.flatten_cons, List.length_append, List.length_cons]; omega
theorem tot_take_le {α : Type} : ∀ (fs : List (List α)) (k : Nat), tot (fs.take k) ≤ tot fs
  | [], k => by simp
  | f :: fs, 0 => by simp [tot]
  | f :: fs, k + 1 => by have := tot_take_le fs k; rw [List.take_succ_cons, tot_cons, tot_cons]; omega
theorem tot_take_succ {α : Type} {fs : List (List α)} {k : Nat} (hk : k < fs.length) : tot (fs.take (k + 1)) = tot (fs.take k) + (fs[k].length + 1) := by
  rw [List.take_succ_eq_append_getElem hk, tot_snoc]

/-- Where objects begin. -/
def stF {α : Type} : Nat → List (List α) → List Int
  | _, [] => []
  | p, f :: fs => (p : Int) :: stF (p + (f.length + 1)) fs

theorem stF_len {α : Type} : ∀ (fs : List (List α)) (p : Nat), (stF p fs).length = fs.length
  | [], p => rfl
  | f :: fs, p => by simp [stF, stF_len fs]

theorem stF_snoc {α : Type} : ∀ (fs : List (List α)) (p : Nat) (f : List α), stF p (fs ++ [f]) = stF p fs ++ [((p + tot fs : Nat) : Int)]
  | [], p, f => by simp [stF, tot]
  | g :: fs, p, f => by
    simp only [List.cons_append, stF, stF_snoc fs, tot_cons]
    congr 4
    omega

theorem stF_get {α : Type} : ∀ (fs : List (List α)) (p k : Nat), k < fs.length → (stF p fs)[k]? = some ((p + tot (fs.take k) : Nat) : Int)
  | [], p, k, h => by simp at h
  | f :: fs, p, 0, h => by simp [stF, tot]
  | f :: fs, p, k + 1, h => by
    simp only [stF, List.getElem?_cons_succ, List.take_succ_cons, tot_cons]
    rw [stF_get fs _ k (by simpa using h)]
    congr 2
    omega

theorem stF_mem {α : Type} : ∀ (fs : List (List α)) (p : Nat) (x : Int), x ∈ stF p fs → (p : Int) ≤ x ∧ x < ((p + tot fs : Nat) : Int)
  | [], p, x, h => by simp [stF] at h
  | f :: fs, p, x, h => by
    simp only [stF, List.mem_cons] at h
    rw [tot_cons]
    rcases h with rfl | h
    · omega
    · have := stF_mem fs _ x h
      omega

theorem stF_nodup {α : Type} : ∀ (fs : List (List α)) (p : Nat), (stF p fs).Nodup
  | [], p => by simp [stF]
  | f :: fs, p => by
    simp only [stF, List.nodup_cons]
    refine ⟨fun h => ?_, stF_nodup fs _⟩
    have := stF_mem fs _ _ h
    omega

theorem stF_same {α β : Type} : ∀ (fs : List (List α)) (gs : List (List β)) (p : Nat), fs.map List.length = gs.map List.length → stF p fs = stF p gs
  | [], [], p, _ => rfl
  | [], g :: gs, p, h => by simp at h
  | f :: fs, [], p, h => by simp at h
  | f :: fs, g :: gs, p, h => by
    simp only [List.map_cons, List.cons.injEq] at h
    simp only [stF, h.1, stF_same fs gs _ h.2]

/-- The fields of the objects of a row of words, of at most n objects. -/
def splitN : Nat → List Int → Option (List (List Int))
  | _, [] => some []
  | 0, _ :: _ => none
  | n + 1, x :: r => if unheadOk x = true ∧ wlen x ≤ r.length then (splitN n (r.drop (wlen x))).map (r.take (wlen x) :: ·) else none

theorem splitN_same : ∀ (n m : Nat) (l : List Int), l.length ≤ n → l.length ≤ m → splitN n l = splitN m l
  | n, m, [], _, _ => by simp only [splitN]
  | 0, _, _ :: _, h, _ => by simp at h
  | _ + 1, 0, _ :: _, _, h => by simp at h
  | n + 1, m + 1, x :: r, h1, h2 => by
    simp only [splitN]
    rw [splitN_same n m (r.drop (wlen x)) (by simp at h1 ⊢; omega) (by simp at h2 ⊢; omega)]

/-- The fields of the objects of a row of words. -/
def splitR (l : List Int) : Option (List (List Int)) := splitN l.length l

theorem splitR_nil : splitR [] = some [] := rfl
theorem splitR_cons (x : Int) (r : List Int) : splitR (x :: r) = if unheadOk x = true ∧ wlen x ≤ r.length then (splitR (r.drop (wlen x))).map (r.take (wlen x) :: ·) else none := by
  unfold splitR
  rw [splitN_same (r.drop (wlen x)).length r.length (r.drop (wlen x)) (Nat.le_refl _) (by simp)]
  simp only [List.length_cons, splitN]

/-- A row of words, so far split. -/
structure SpAt (ws : List Int) (D : List (List Int)) : Prop where
  le : tot D ≤ ws.length
  eq : splitR ws = (splitR (ws.drop (tot D))).map (D ++ ·)

theorem spAt_nil (ws : List Int) : SpAt ws [] := ⟨by simp [tot], by simp [tot]⟩

theorem drop_cons' {ws : List Int} {p : Nat} (h : p < ws.length) : ws.drop p = ws[p] :: ws.drop (p + 1) := List.drop_eq_getElem_cons h

theorem SpAt.step {ws : List Int} {D : List (List Int)} (h : SpAt ws D) (hp : tot D < ws.length) (hu : unheadOk ws[tot D] = true) (hl : tot D + 1 + wlen ws[tot D] ≤ ws.length) :
    SpAt ws (D ++ [(ws.drop (tot D + 1)).take (wlen ws[tot D])]) ∧ tot (D ++ [(ws.drop (tot D + 1)).take (wlen ws[tot D])]) = tot D + 1 + wlen ws[tot D] := by
  have e : tot (D ++ [(ws.drop (tot D + 1)).take (wlen ws[tot D])]) = tot D + 1 + wlen ws[tot D] := by
    rw [tot_snoc, List.length_take, List.length_drop]; omega
  refine ⟨⟨by omega, ?_⟩, e⟩
  rw [e, h.eq, drop_cons' hp, splitR_cons, if_pos ⟨hu, by rw [List.length_drop]; omega⟩, List.drop_drop, Option.map_map]
  congr 1
  funext l
  simp

theorem SpAt.bad {ws : List Int} {D : List (List Int)} (h : SpAt ws D) (hp : tot D < ws.length) (hb : unheadOk ws[tot D] = false ∨ ws.length < tot D + 1 + wlen ws[tot D]) : splitR ws = none := by
  rw [h.eq, drop_cons' hp, splitR_cons, if_neg]
  · rfl
  · rintro ⟨h1, h2⟩
    rw [List.length_drop] at h2
    rcases hb with hb | hb
    · rw [hb] at h1; cases h1
    · omega

theorem SpAt.fin {ws : List Int} {D : List (List Int)} (h : SpAt ws D) (hp : ws.length ≤ tot D) : splitR ws = some D := by
  rw [h.eq, List.drop_of_length_le hp, splitR_nil]; simp

/-- The words of objects: each a header, and fields. -/
def joinW : List Int → List (List Int) → List Int
  | h :: hs, f :: fs => h :: (f ++ joinW hs fs)
  | _, _ => []

theorem split_join : ∀ (n : Nat) (ws : List Int) (fs : List (List Int)), ws.length ≤ n → splitR ws = some fs → ∃ hs, hs.length = fs.length ∧ ws = joinW hs fs ∧ (∀ f ∈ fs, f.length ≤ 4)
  | n, [], fs, _, h => by
    rw [splitR_nil] at h
    injection h with h
    subst h
    exact ⟨[], rfl, rfl, by simp⟩
  | 0, x :: r, fs, hn, h => by simp at hn
  | n + 1, x :: r, fs, hn, h => by
    rw [splitR_cons] at h
    split at h
    · rename_i hc
      cases hs : splitR (r.drop (wlen x)) with
      | none => rw [hs] at h; simp at h
      | some gs =>
        rw [hs] at h
        simp only [Option.map_some, Option.some.injEq] at h
        subst h
        obtain ⟨hs', h1, h2, h3⟩ := split_join n _ gs (by simp at hn ⊢; omega) hs
        refine ⟨x :: hs', by simp [h1], ?_, ?_⟩
        · simp only [joinW, ← h2, List.take_append_drop]
        · intro f hf
          rcases List.mem_cons.1 hf with rfl | hf
          · have := wlen_le hc.1
            rw [List.length_take]; omega
          · exact h3 f hf
    · cases h

theorem join_split : ∀ (hs : List Int) (fs : List (List Int)), hs.length = fs.length → (∀ (k : Nat) (x : Int) (f : List Int), hs[k]? = some x → fs[k]? = some f → unheadOk x = true ∧ wlen x = f.length) → splitR (joinW hs fs) = some fs
  | [], [], _, _ => by simp only [joinW]; exact splitR_nil
  | [], f :: fs, h, _ => by simp at h
  | x :: hs, [], h, _ => by simp at h
  | x :: hs, f :: fs, h, hk => by
    have h0 := hk 0 x f rfl rfl
    have ih := join_split hs fs (by simpa using h) (fun k y g h1 h2 => hk (k + 1) y g (by simpa using h1) (by simpa using h2))
    simp only [joinW]
    rw [splitR_cons, if_pos ⟨h0.1, by simp [h0.2]⟩, h0.2, List.drop_left, List.take_left, ih]
    rfl

theorem joinW_len : ∀ (hs : List Int) (fs : List (List Int)), hs.length = fs.length → (joinW hs fs).length = tot fs
  | [], [], _ => rfl
  | [], f :: fs, h => by simp at h
  | x :: hs, [], h => by simp at h
  | x :: hs, f :: fs, h => by
    have := joinW_len hs fs (by simpa using h)
    simp only [joinW, tot_cons, List.length_cons, List.length_append]
    omega

/-- But for headers, two such rows are the same. -/
theorem join_same : ∀ (hs hs' : List Int) (fs : List (List Int)) (p i : Nat), hs.length = fs.length → hs'.length = fs.length → ((p + i : Nat) : Int) ∈ stF p fs ∨ (joinW hs fs)[i]? = (joinW hs' fs)[i]?
  | [], [], [], p, i, _, _ => .inr rfl
  | x :: hs, _, [], p, i, h, _ => by simp at h
  | _, x :: hs, [], p, i, _, h => by simp at h
  | [], _, f :: fs, p, i, h, _ => by simp at h
  | _, [], f :: fs, p, i, _, h => by simp at h
  | x :: hs, y :: hs', f :: fs, p, i, h, h' => by
    cases i with
    | zero => exact .inl (by simp [stF])
    | succ i =>
      simp only [joinW, List.getElem?_cons_succ]
      by_cases hi : i < f.length
      · exact .inr (by rw [List.getElem?_append_left hi, List.getElem?_append_left hi])
      · rw [List.getElem?_append_right (by omega), List.getElem?_append_right (by omega)]
        rcases join_same hs hs' fs (p + (f.length + 1)) (i - f.length) (by simpa using h) (by simpa using h') with e | e
        · refine .inl ?_
          rw [show p + (f.length + 1) + (i - f.length) = p + (i + 1) from by omega] at e
          simp only [stF, List.mem_cons]
          exact .inr e
        · exact .inr e

theorem splitR_st {ws : List Int} {fs : List (List Int)} (h : splitR ws = some fs) : tot fs = ws.length ∧ (∀ f ∈ fs, f.length ≤ 4) := by
  obtain ⟨hs, h1, h2, h3⟩ := split_join ws.length ws fs (Nat.le_refl _) h
  exact ⟨by rw [h2, joinW_len hs fs h1], h3⟩

/-- May a word stand in an arena whose objects begin there? -/
def okW (st : List Int) (x : Int) : Bool := unErr x == 0 && (!unRef x || decide (unNum x ∈ st))
/-- The value of a word, with the object's number. -/
def valW (st : List Int) (x : Int) : V := (unRef x, if unRef x then placeOf st (unNum x) else unNum x)
/-- The word of a value, with the object's place. -/
def packV (st : List Int) (v : V) : Int := packW v.1 (if v.1 then st.getD v.2.toNat 0 else v.2)

/-- What is wrong with an arena. -/
def arenaE (ws rs : List Int) : Int :=
  if 256 < ws.length ∨ 8 < rs.length then 1 else match splitR ws with
    | none => 4
    | some fs => if (rs ++ fs.flatten).all (okW (stF 0 fs)) then 0 else 2

/-- The graph of an arena. -/
def readG (fs : List (List Int)) (rs : List Int) : Gr := ⟨fs.map fun f => f.map (valW (stF 0 fs)), rs.map (valW (stF 0 fs))⟩

/-- The arena of a graph. -/
def layRoots (g : Gr) : List Int := g.roots.map (packV (stF 0 g.objs))
def layHeads (L : List (List V)) : List Int := L.map fun o => headW o.length false 0
def layFields (st : List Int) (L : List (List V)) : List (List Int) := L.map fun o => o.map (packV st)
def layWords (g : Gr) : List Int := joinW (layHeads g.objs) (layFields (stF 0 g.objs) g.objs)

end Go.Proofs.Ytahdalejmfbkeaa
