
/- A chain made of numbers has a story. -/
import Derived.Test.Ytijimplcjaeneaah0o
set_option linter.unusedVariables false
set_option linter.unusedSimpArgs false
namespace Go.Proofs.Ytijimplcjaeneaa
open Go.AI
/-- What each link that is made is like. -/
structure LkM (l : Lk) : Prop where
  f0 : 0 ≤ l.f
  f1 : l.f ≤ 4
  t0 : 0 ≤ l.t
  t1 : l.t ≤ 4
  ne : l.f ≠ l.t
  l0 : 0 ≤ l.lo
  h1 : l.hi ≤ 200
  lh : l.lo ≤ l.hi
/-- Links, one behind the other, from an owner and a day on, up to an owner and a day. -/
def PathL : Int → Int → List Lk → Int → Int → Prop
  | h, d, [], h', d' => h' = h ∧ d' = d
  | h, d, l :: t, h', d' => ∃ c, l.f = h ∧ d < c ∧ l.lo ≤ c ∧ c ≤ l.hi ∧ PathL l.t c t h' d'
theorem PathL.snoc {x : Lk} {c : Int} : ∀ {t : List Lk} {h d h' d' : Int}, PathL h d t h' d' → x.f = h' → d' < c → x.lo ≤ c → c ≤ x.hi → PathL h d (t ++ [x]) x.t c
  | [], h, d, h', d', hp, h1, h2, h3, h4 => by
    obtain ⟨rfl, rfl⟩ := hp
    exact ⟨c, h1, h2, h3, h4, rfl, rfl⟩
  | l :: t, h, d, h', d', ⟨e, a1, a2, a3, a4, hp⟩, h1, h2, h3, h4 => ⟨e, a1, a2, a3, a4, hp.snoc h1 h2 h3 h4⟩
theorem path_chain {ls : List Lk} : ∀ {t : List Lk} {is : List Int} {h d s h' d' : Int}, t.length = is.length → (∀ j, j < t.length → (0 ≤ is[j]! ∧ is[j]! < ls.length) ∧ ls[is[j]!.toNat]! = t[j]!) → PathL h d t h' d' → s ≤ d → ChainO ls h s is
  | [], [], _, _, _, _, _, _, _, _, _ => trivial
  | l :: t, i :: is, h, d, s, h', d', hl, hi, ⟨c, a1, a2, a3, a4, hp⟩, hs => by
    obtain ⟨h0, h1⟩ := hi 0 (by simp)
    have h0 : 0 ≤ i ∧ i < ls.length := h0
    have h1 : ls[i.toNat]! = l := h1
    refine ⟨h0, by rw [h1]; exact a1, by rw [h1]; unfold soon; omega, ?_⟩
    rw [h1]
    exact path_chain (by simpa using hl) (fun j hj => by
      have := hi (j + 1) (by simpa using hj)
      simpa using this) hp (by unfold soon; omega)
theorem dist_nodup : ∀ {l : List Int}, Dist l → l.Nodup := by
  intro l h
  rw [List.nodup_iff_pairwise_ne, List.pairwise_iff_getElem]
  intro i j hi hj hij e
  have := h i j hi hj (by rw [getElem!_pos l i hi, getElem!_pos l j hj]; exact e)
  omega
/-- Each number has its place in an order. -/
theorem order_all {xs : List Int} (h : OrderL xs) {k : Nat} (hk : k < xs.length) : (k : Int) ∈ xs := by
  apply Classical.byContradiction
  intro hn
  have hnd : ((k : Int) :: xs).Nodup := List.nodup_cons.2 ⟨hn, dist_nodup h.1⟩
  have := List.Nodup.length_le_of_subset (l₁ := (k : Int) :: xs) (l₂ := (List.range xs.length).map fun (i : Nat) => (i : Int)) hnd fun y hy => by
    rw [List.mem_map]
    rcases List.mem_cons.1 hy with rfl | hy
    · exact ⟨k, List.mem_range.2 hk, rfl⟩
    · obtain ⟨a, ha, rfl⟩ := List.getElem_of_mem hy
      have := h.2 a ha
      rw [getElem!_pos xs a ha] at this
      exact ⟨xs[a].toNat, List.mem_range.2 (by omega), by omega⟩
  simp at this
  omega
/-- Where it is. -/
def invO (xs : List Int) : List Int := (List.range xs.length).map fun (k : Nat) => ((xs.idxOf (k : Int) : Nat) : Int)
theorem invO_at {xs : List Int} {k : Nat} (hk : k < xs.length) : (invO xs)[k]! = ((xs.idxOf (k : Int) : Nat) : Int) := by
  unfold invO
  rw [getElem!_pos _ k (by simpa using hk), List.getElem_map, List.getElem_range]
theorem invO_len {xs : List Int} : (invO xs).length = xs.length := by simp [invO]
theorem invO_lt {xs : List Int} (h : OrderL xs) {k : Nat} (hk : k < xs.length) : xs.idxOf (k : Int) < xs.length := List.idxOf_lt_length_of_mem (order_all h hk)
theorem invO_back {xs : List Int} (h : OrderL xs) {k : Nat} (hk : k < xs.length) : xs[xs.idxOf (k : Int)]! = (k : Int) := by
  rw [getElem!_pos xs _ (invO_lt h hk), List.getElem_idxOf]
theorem invO_nodup {xs : List Int} (h : OrderL xs) : (invO xs).Nodup := by
  apply dist_nodup
  intro a b ha hb e
  rw [invO_len] at ha hb
  rw [invO_at ha, invO_at hb] at e
  have h1 := invO_back h ha
  have h2 := invO_back h hb
  have e' : xs.idxOf (a : Int) = xs.idxOf (b : Int) := by omega
  rw [e', h2] at h1
  omega
def shufL (l : List Lk) (xs : List Int) : List Lk := xs.map fun x => l[x.toNat]!
theorem shuf_at {l : List Lk} {xs : List Int} {j : Nat} (hj : j < xs.length) : (shufL l xs)[j]! = l[xs[j]!.toNat]! := by
  unfold shufL
  rw [getElem!_pos _ j (by simpa using hj), List.getElem_map, getElem!_pos xs j hj]
theorem shuf_len {l : List Lk} {xs : List Int} : (shufL l xs).length = xs.length := by simp [shufL]
theorem lkM_e {l : Lk} (h : LkM l) : linkE l = 0 := by
  obtain ⟨a1, a2, a3, a4, a5, a6, a7, a8⟩ := h
  simp only [linkE, spanE, inB, decide_eq_true a1, decide_eq_true a3, decide_eq_true a6, decide_eq_true (show l.f ≤ 19 by omega), decide_eq_true (show l.t ≤ 19 by omega), decide_eq_true (show l.lo ≤ 100000 by omega), decide_eq_true (show 0 ≤ l.hi by omega), decide_eq_true (show l.hi ≤ 100000 by omega), Bool.and_self, cond_true]
  rw [if_neg a5, if_neg (by omega)]
theorem linksE_of : ∀ {ls : List Lk}, (∀ x ∈ ls, LkM x) → linksE ls = 0
  | [], _ => rfl
  | l :: t, h => by
    unfold linksE
    rw [if_pos (lkM_e (h l (by simp)))]
    exact linksE_of fun x hx => h x (by simp [hx])
/-- A chain that is made. -/
structure ChM (most : Nat) (mk lo hi : Int) (ls : List Lk) : Prop where
  m0 : 0 ≤ mk
  m1 : mk ≤ 4
  l0 : 0 ≤ lo
  lh : lo ≤ hi
  h1 : hi ≤ 200
  n : ls.length ≤ most
  lk : ∀ x ∈ ls, LkM x
  st : ∃ o, o.length = ls.length ∧ ChainO ls mk lo o ∧ o.Nodup
theorem ChM.ok {most : Nat} {mk lo hi : Int} {ls : List Lk} (h : ChM most mk lo hi ls) (h7 : most ≤ 7) : chkC mk lo hi ls = 0 := by
  obtain ⟨a1, a2, a3, a4, a5, a6, a7, o, b1, b2, b3⟩ := h
  have hs : spanE lo hi 0 100000 = 0 := by
    simp only [spanE, inB, decide_eq_true a3, decide_eq_true (show lo ≤ 100000 by omega), decide_eq_true (show 0 ≤ hi by omega), decide_eq_true (show hi ≤ 100000 by omega), Bool.and_self, cond_true]
    rw [if_neg (by omega)]
  have ho : (ordersL mk lo ls).isEmpty = false := by
    cases hx : ordersL mk lo ls with
    | nil =>
      have := (orders_mem (mk := mk) (lo := lo) (ls := ls) (o := o)).2 ⟨b1, b2, b3⟩
      rw [hx] at this
      cases this
    | cons a b => rfl
  simp only [chkC, inB, decide_eq_true a1, decide_eq_true (show mk ≤ 19 by omega), Bool.and_self, cond_true]
  rw [if_pos hs, if_neg (by omega), if_pos (linksE_of a7), ho]
  rfl
theorem chM_of {most : Nat} {mk lo hi h' d' d : Int} {l : List Lk} {xs : List Int} (m0 : 0 ≤ mk) (m1 : mk ≤ 4) (l0 : 0 ≤ lo) (lh : lo ≤ d) (dh : d ≤ hi) (h1 : hi ≤ 200) (hx : OrderL xs) (hl : xs.length = l.length) (hn : l.length ≤ most) (hk : ∀ x ∈ l, LkM x) (hp : PathL mk d l h' d') : ChM most mk lo hi (shufL l xs) := by
  refine ⟨m0, m1, l0, by omega, h1, by rw [shuf_len]; omega, fun x hx' => ?_, invO xs, by rw [invO_len, shuf_len], ?_, invO_nodup hx⟩
  · obtain ⟨j, hj, rfl⟩ := List.getElem_of_mem hx'
    rw [shuf_len] at hj
    rw [← getElem!_pos (shufL l xs) j (by rw [shuf_len]; exact hj), shuf_at hj]
    have := hx.2 j hj
    rw [getElem!_pos l _ (by omega)]
    exact hk _ (List.getElem_mem _)
  · refine path_chain (t := l) (by rw [invO_len, hl]) (fun j hj => ?_) hp lh
    have hj' : j < xs.length := by omega
    have h2 := invO_lt hx hj'
    rw [invO_at hj', shuf_len]
    refine ⟨⟨by omega, by omega⟩, ?_⟩
    rw [Int.toNat_natCast, shuf_at h2, invO_back hx hj', Int.toNat_natCast]
theorem stCh {H : Heap} {b k : Nat} {m x y m' x' y' : Int} {s s' : Value} {e : TypeId} (hg : H.get b = some (.cells (Chl m x y s) e (k + 1))) (hs : oneC s' = true) : astore Try.prog 26 H (Chv m' x' y' s') (.pointer (some ⟨b, 0, none⟩)) = some (H.set b (.cells (Chl m' x' y' s') e (k + 1)), b) := store_allW (vs := Chl m' x' y' s') hg rfl szCh (by simp only [List.all_cons, List.all_nil, hs]; rfl)
theorem buCh {m : Int} : abuild Try.prog 26 [(0, VI m)] = some (Chv m 0 0 nilS) := by kernel_rfl
theorem stChS {H : Heap} {b q : Nat} {m x y x' y' : Int} {s : Value} {e : TypeId} (hg : H.get b = some (.cells (Chl m x y s) e (q + 1))) : astore Try.prog 23 H (Spv x' y') (.pointer (some ⟨b, 0 + 1, none⟩)) = some (H.set b (.cells (Chl m x' y' s) e (q + 1)), b) := by
  have h1 : (Value.agg [VI x', VI y'].toArray).cells = [VI x', VI y'].toArray := rfl
  show astore Try.prog 23 H (Value.agg [VI x', VI y'].toArray) _ = _
  simp only [astore, hg, h1, szSp, spliceQ_eq]
  rw [if_pos ⟨by simp, by simp, rfl, by rfl⟩]
  rfl
end Go.Proofs.Ytijimplcjaeneaa
