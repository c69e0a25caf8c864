
/- The reference's dated. -/
import Derived.Test.Ytijimplcjaeneaal0o
set_option linter.unusedVariables false
set_option linter.unusedSimpArgs false
namespace Go.Proofs.Ytijimplcjaeneaa
open Go.AI
abbrev yS : TypeId := 119
abbrev Stv (o x y : Value) : Value := .agg #[o, x, y]
abbrev Stl (o x y : Value) : List Value := [o, x, y]
theorem zcSt : zeroCellsW Try.prog yS = some (Stl nilS nilS nilS) := by kernel_rfl
theorem alSt {H : Heap} : sAlloc Try.prog H yS = some (.pointer (some ⟨H.n, 0, none⟩), H.new (.cells (Stl nilS nilS nilS) yS 1), H.n) := alloc_ofW zcSt
theorem agSt : isAggB Try.prog yS = some true := by kernel_rfl
theorem szSt : sizeB Try.prog yS = some 3 := by kernel_rfl
theorem buSt0 : abuild Try.prog yS [] = some (Stv nilS nilS nilS) := by kernel_rfl
theorem buSt1 {x y z : Option Addr} {n m l c d e : Nat} : abuild Try.prog yS [(0, .slice x n c), (1, .slice y m d), (2, .slice z l e)] = some (Stv (.slice x n c) (.slice y m d) (.slice z l e)) := by kernel_rfl
theorem buSt {H : Heap} {o x y : Value} {a b c : List Value} (ho : Row H o a) (hx : Row H x b) (hy : Row H y c) : abuild Try.prog yS [(0, o), (1, x), (2, y)] = some (Stv o x y) := by
  obtain ⟨_, _, _, rfl⟩ := row_sl ho
  obtain ⟨_, _, _, rfl⟩ := row_sl hx
  obtain ⟨_, _, _, rfl⟩ := row_sl hy
  exact buSt1
theorem stSt {H : Heap} {b k : Nat} {o x y o' x' y' : Value} {e : TypeId} (hg : H.get b = some (.cells (Stl o' x' y') e (k + 1))) (ho : oneC o = true) (hx : oneC x = true) (hy : oneC y = true) : astore Try.prog yS H (Stv o x y) (.pointer (some ⟨b, 0, none⟩)) = some (H.set b (.cells (Stl o x y) e (k + 1)), b) := store_allW (vs := Stl o x y) hg rfl szSt (by simp [ho, hx, hy])
theorem ldSt {H : Heap} {b : Nat} {o x y : Value} {e : TypeId} {k : Nat} (hg : H.get b = some (.cells (Stl o x y) e k)) : aload Try.prog yS H (.pointer (some ⟨b, 0, none⟩)) = some (Stv o x y) := agg_load agSt szSt hg (Nat.le_refl _)
theorem zeroSpb : zeroBB Try.prog sT = some ([VI 0, VI 0], 16) := by kernel_rfl
abbrev OwnSp (H : Heap) (v : Value) (l : List (Int × Int)) (B : Nat) : Prop := OwnS sT 2 H v (l.map Spl) B
theorem spPush {K : Value → Heap → Prop} {B B0 : Nat} {H : Heap} {x : Value} {l : List (Int × Int)} {d : Int × Int} (hx : OwnSp H x l B0) (hB0 : B0 ≤ H.n) (hB : B ≤ B0) (hn : l.length < 1000000)
    (hk : ∀ r H', OwnSp H' r (l ++ [d]) B0 → KeepBut x H H' → (∀ c, blkOf r = some c → H.n ≤ c) → K r H') :
    ∃ v H' b, aappend Try.prog (H.new (.cells (Spl d) sT 2)) #[sS, sS] x (.slice (some ⟨H.n, 0, none⟩) 1 0) = some (v, H', b) ∧ B ≤ b ∧ K v H' :=
  append_askS (z := [VI 0, VI 0]) unSs2 zeroSpb (by decide) rfl hx hB0 hB (by rw [List.length_map]; exact hn) (fun r H' ho => hk r H' (by rw [OwnSp, List.map_append]; exact ho))
theorem sp_alen {H : Heap} {v : Value} {ps : List (Int × Int)} (h : RowS 2 H v (ps.map Spl)) : alen Try.prog H sS v = some (VI ps.length) := by
  have := h.alen unSs2; rwa [List.length_map] at this
theorem sp_addr {H : Heap} {v : Value} {ps : List (Int × Int)} (h : RowS 2 H v (ps.map Spl)) {n : Int} (h0 : 0 ≤ n) (h1 : n < ps.length) : aindexAddr Try.prog sS v (.int .i64 n) = some (elemS v 2 n.toNat) := h.addr unSs2 szSp h0 (by rw [List.length_map]; exact h1)
theorem sp_f0 {H : Heap} {v : Value} {ps : List (Int × Int)} (h : RowS 2 H v (ps.map Spl)) {j : Nat} (hj : j < ps.length) : afieldAddr Try.prog sT (elemS v 2 j) 0 = some (fieldOf (elemS v 2 j) 0) ∧ aload Try.prog 3 H (fieldOf (elemS v 2 j) 0) = some (VI ps[j]!.1) :=
  ⟨h.faddr foS0 (by decide) (by rw [List.length_map]; exact hj), h.fload ag3 (spl_at hj) rfl⟩
theorem sp_f1 {H : Heap} {v : Value} {ps : List (Int × Int)} (h : RowS 2 H v (ps.map Spl)) {j : Nat} (hj : j < ps.length) : afieldAddr Try.prog sT (elemS v 2 j) 1 = some (fieldOf (elemS v 2 j) 1) ∧ aload Try.prog 3 H (fieldOf (elemS v 2 j) 1) = some (VI ps[j]!.2) :=
  ⟨h.faddr foS1 (by decide) (by rw [List.length_map]; exact hj), h.fload ag3 (spl_at hj) rfl⟩
/-- The day of a link, read and written. -/
theorem lk_dayR {H : Heap} {v : Value} {ls : List Lk} (hr : RowS 4 H v (ls.map Lkl)) {i : Nat} (hi : i < ls.length) : afieldAddr Try.prog 28 (elemS v 4 i) 2 = some (fieldOf (elemS v 4 i) 2) ∧ aload Try.prog sT H (fieldOf (elemS v 4 i) 2) = some (Spv ls[i]!.lo ls[i]!.hi) := by
  refine ⟨hr.faddr foL2 (by decide) (by rw [List.length_map]; exact hi), ?_⟩
  have hj := lk_at hi
  rcases hr.2 with ⟨_, h0⟩ | ⟨_, h0⟩ | ⟨b, o, c, cs, e, k, rfl, _, hb, _, hle, hc⟩
  · rw [List.map_eq_nil_iff] at h0; subst h0; cases hi
  · rw [List.map_eq_nil_iff] at h0; subst h0; cases hi
  · have h2 := hc i 2 _ _ hj rfl
    have h3 := hc i 3 _ _ hj rfl
    have l2 := (List.getElem?_eq_some_iff.1 h2).1
    have l3 := (List.getElem?_eq_some_iff.1 h3).1
    simp only [elemS, fieldOf, aload, hb, agSp, szSp]
    rw [if_pos (by omega)]
    congr 2
    apply Array.toList_inj.1
    show (cs.drop (o + i * 4 + 2)).take 2 = [VI ls[i]!.lo, VI ls[i]!.hi]
    rw [List.drop_eq_getElem_cons l2, List.drop_eq_getElem_cons (by omega : o + i * 4 + 2 + 1 < cs.length)]
    simp only [List.take_succ_cons, List.take_zero]
    rw [(List.getElem?_eq_some_iff.1 h2).2]
    congr 2
    exact (List.getElem?_eq_some_iff.1 h3).2
/-- The spans of a story: of Made, and of the links. -/
def spansL (lo hi : Int) (ls : List Lk) (o : List Int) : List (Int × Int) := (lo, hi) :: o.map fun k => (ls[k.toNat]!.lo, ls[k.toNat]!.hi)
theorem spansL_len {lo hi : Int} {ls : List Lk} {o : List Int} : (spansL lo hi ls o).length = o.length + 1 := by simp [spansL]
theorem spansL_snoc {lo hi : Int} {ls : List Lk} {o : List Int} {k : Int} : spansL lo hi ls (o ++ [k]) = spansL lo hi ls o ++ [(ls[k.toNat]!.lo, ls[k.toNat]!.hi)] := by simp [spansL]
theorem upL_at {ls : List Lk} : ∀ {o : List Int} {a : Ev} {j : Nat}, j < o.length → (a :: upL ls a.lo o)[j + 1]!.lo = max ls[(o[j]!).toNat]!.lo ((a :: upL ls a.lo o)[j]!.lo + 1) ∧ (a :: upL ls a.lo o)[j + 1]!.hi = ls[(o[j]!).toNat]!.hi
  | k :: t, a, 0, _ => ⟨rfl, rfl⟩
  | k :: t, a, j + 1, h => by
    have := upL_at (ls := ls) (o := t) (a := ⟨k, ls[k.toNat]!.t, max ls[k.toNat]!.lo (a.lo + 1), ls[k.toNat]!.hi⟩) (j := j) (by simpa using h)
    exact this
theorem evs0_at {mk lo hi : Int} {ls : List Lk} {o : List Int} {j : Nat} (h : j < o.length) : (evs0 mk lo hi ls o)[j + 1]!.lo = max (spansL lo hi ls o)[j + 1]!.1 ((evs0 mk lo hi ls o)[j]!.lo + 1) ∧ (evs0 mk lo hi ls o)[j + 1]!.hi = (spansL lo hi ls o)[j + 1]!.2 := by
  have h1 := upL_at (ls := ls) (a := ⟨-1, mk, lo, hi⟩) h
  have h2 : (spansL lo hi ls o)[j + 1]! = (ls[(o[j]!).toNat]!.lo, ls[(o[j]!).toNat]!.hi) := by
    unfold spansL
    rw [getElem!_pos _ _ (by simp; omega), List.getElem_cons_succ, List.getElem_map, getElem!_pos o j h]
  rw [h2]
  exact h1
theorem evs0_at0 {mk lo hi : Int} {ls : List Lk} {o : List Int} : (evs0 mk lo hi ls o)[0]!.lo = (spansL lo hi ls o)[0]!.1 ∧ (evs0 mk lo hi ls o)[0]!.hi = (spansL lo hi ls o)[0]!.2 := ⟨rfl, rfl⟩
def leastL (mk lo hi : Int) (ls : List Lk) (o : List Int) : List Int := (evsL mk lo hi ls o).map (·.lo)
def mostL (mk lo hi : Int) (ls : List Lk) (o : List Int) : List Int := (evsL mk lo hi ls o).map (·.hi)
theorem downL_lo : ∀ {E : List Ev}, (downL E).map (·.lo) = E.map (·.lo)
  | [] => rfl
  | e :: t => by
    have ih := downL_lo (E := t)
    unfold downL
    cases hd : downL t with
    | nil => rw [hd] at ih; simp at ih ⊢; exact ih
    | cons f r => rw [hd] at ih; simp at ih ⊢; exact ih
theorem map_at {α : Type} [Inhabited α] {l : List α} {f : α → Int} {j : Nat} (h : j < l.length) : (l.map f)[j]! = f l[j]! := by
  rw [getElem!_pos _ j (by simpa using h), List.getElem_map, getElem!_pos l j h]
theorem least_of {mk lo hi : Int} {ls : List Lk} {o xs : List Int} (hl : xs.length = o.length + 1) (h : ∀ j, j < o.length + 1 → xs[j]! = (evs0 mk lo hi ls o)[j]!.lo) : xs = leastL mk lo hi ls o := by
  unfold leastL evsL
  rw [downL_lo]
  refine List.ext_getElem (by rw [List.length_map, evs0_len, hl]) fun j h1 h2 => ?_
  rw [← getElem!_pos xs j h1, h j (by omega), ← getElem!_pos _ j h2, map_at (by rw [evs0_len]; omega)]
theorem most_of {mk lo hi : Int} {ls : List Lk} {o ys : List Int} (hl : ys.length = o.length + 1) (h : ∀ j, j < o.length + 1 → ys[j]! = (evsL mk lo hi ls o)[j]!.hi) : ys = mostL mk lo hi ls o := by
  unfold mostL
  refine List.ext_getElem (by rw [List.length_map, evs_len, hl]) fun j h1 h2 => ?_
  rw [← getElem!_pos ys j h1, h j (by omega), ← getElem!_pos _ j h2, map_at (by rw [evs_len]; omega)]
theorem evsL_lo {mk lo hi : Int} {ls : List Lk} {o : List Int} {j : Nat} (h : j < o.length + 1) : (evsL mk lo hi ls o)[j]!.lo = (evs0 mk lo hi ls o)[j]!.lo := by
  have h1 : (evsL mk lo hi ls o).map (·.lo) = (evs0 mk lo hi ls o).map (·.lo) := downL_lo
  have := congrArg (fun l => l[j]!) h1
  rw [map_at (by rw [evs_len]; exact h), map_at (by rw [evs0_len]; exact h)] at this
  exact this
theorem int_set {xs : List Int} {i j : Nat} {a : Int} (hj : j < xs.length) : (xs.set i a)[j]! = if i = j then a else xs[j]! := by
  rw [getElem!_pos _ j (by rw [List.length_set]; exact hj), List.getElem_set, getElem!_pos xs j hj]
theorem okE_all {E : List Ev} (h : ∀ j, j < E.length → E[j]!.lo ≤ E[j]!.hi) : okE E = true := by
  unfold okE
  rw [List.all_eq_true]
  intro e he
  obtain ⟨j, hj, rfl⟩ := List.getElem_of_mem he
  have := h j hj
  rw [getElem!_pos E j hj] at this
  exact decide_eq_true this
theorem okE_not {E : List Ev} {j : Nat} (hj : j < E.length) (h : E[j]!.hi < E[j]!.lo) : okE E = false := by
  unfold okE
  rw [List.all_eq_false]
  refine ⟨E[j]!, by rw [getElem!_pos E j hj]; exact List.getElem_mem _, ?_⟩
  rw [decide_eq_false (by omega)]
  simp
end Go.Proofs.Ytijimplcjaeneaa
