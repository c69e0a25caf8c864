
/- Days: the pure part. -/
import Derived.Test.Ytijimplcjaeneaai1o
import Derived.Test.Ytijimplcjaeneaai5o
set_option linter.unusedVariables false
set_option linter.unusedSimpArgs false
namespace Go.Proofs.Ytijimplcjaeneaa
open Go.AI
theorem downL_k : ∀ {E : List Ev}, (downL E).map (·.k) = E.map (·.k)
  | [] => rfl
  | e :: t => by
    have ih := downL_k (E := t)
    unfold downL
    cases hd : downL t with
    | nil => rw [hd] at ih; simp at ih ⊢; exact ih
    | cons f r => rw [hd] at ih; simp at ih ⊢; exact ih
theorem upL_k {ls : List Lk} : ∀ {o : List Int} {p : Int}, (upL ls p o).map (·.k) = o
  | [], _ => rfl
  | k :: t, p => by simp [upL, upL_k]
theorem evs_k {mk lo hi : Int} {ls : List Lk} {o : List Int} : (evsL mk lo hi ls o).map (·.k) = -1 :: o := by
  rw [evsL, downL_k]
  show -1 :: (upL ls lo o).map (·.k) = _
  rw [upL_k]
theorem evs_len {mk lo hi : Int} {ls : List Lk} {o : List Int} : (evsL mk lo hi ls o).length = o.length + 1 := by
  have := congrArg List.length (evs_k (mk := mk) (lo := lo) (hi := hi) (ls := ls) (o := o))
  simpa using this
theorem evs_kin {mk lo hi : Int} {ls : List Lk} {o : List Int} (ho : ∀ k ∈ o, 0 ≤ k ∧ k < ls.length) : ∀ e ∈ evsL mk lo hi ls o, e.k = -1 ∨ (0 ≤ e.k ∧ e.k < ls.length) := by
  intro e he
  have h1 : e.k ∈ (evsL mk lo hi ls o).map (·.k) := List.mem_map_of_mem he
  rw [evs_k] at h1
  rcases List.mem_cons.1 h1 with h | h
  · exact .inl h
  · exact .inr (ho _ h)
/-- What is known of the days: of Made, and of each link. -/
abbrev DSt := (Int × Int) × List (Int × Int)
def putE (st : DSt) (e : Ev) : DSt := if e.k = -1 then ((min st.1.1 e.lo, max st.1.2 e.hi), st.2) else (st.1, st.2.set e.k.toNat (min (st.2[e.k.toNat]!).1 e.lo, max (st.2[e.k.toNat]!).2 e.hi))
def dayO (mk lo hi : Int) (ls : List Lk) (st : DSt) (o : List Int) : DSt := (evsL mk lo hi ls o).foldl putE st
def dayF (mk lo hi : Int) (ls : List Lk) (S : List (List Int)) : DSt := S.foldl (dayO mk lo hi ls) ((100000, 0), List.replicate ls.length (100000, 0))
theorem putE_len {st : DSt} {e : Ev} : (putE st e).2.length = st.2.length := by
  unfold putE
  split
  · rfl
  · simp
theorem puts_len : ∀ {E : List Ev} {st : DSt}, (E.foldl putE st).2.length = st.2.length
  | [], _ => rfl
  | e :: t, st => by rw [List.foldl_cons, puts_len, putE_len]
theorem dayF_snoc {mk lo hi : Int} {ls : List Lk} {S : List (List Int)} {o : List Int} : dayF mk lo hi ls (S ++ [o]) = dayO mk lo hi ls (dayF mk lo hi ls S) o := by
  unfold dayF
  rw [List.foldl_append]
  rfl
theorem dayS_len {mk lo hi : Int} {ls : List Lk} : ∀ {S : List (List Int)} {st : DSt}, (S.foldl (dayO mk lo hi ls) st).2.length = st.2.length
  | [], _ => rfl
  | o :: t, st => by rw [List.foldl_cons, dayS_len, dayO, puts_len]
theorem dayF_len {mk lo hi : Int} {ls : List Lk} {S : List (List Int)} : (dayF mk lo hi ls S).2.length = ls.length := by
  rw [dayF, dayS_len]; simp
abbrev SpC (l : List (Int × Int)) : List Value := (l.map Spl).flatten
theorem spl_two {l : List (Int × Int)} : ∀ r ∈ l.map Spl, r.length = 2 := by
  intro r hr
  obtain ⟨e, _, rfl⟩ := List.mem_map.1 hr
  rfl
theorem spl_at {l : List (Int × Int)} {k : Nat} (h : k < l.length) : (l.map Spl)[k]? = some (Spl l[k]!) := by
  rw [List.getElem?_map, List.getElem?_eq_getElem h, getElem!_pos l k h]; rfl
theorem spc_len {l : List (Int × Int)} : (SpC l).length = l.length * 2 := by
  rw [flat_len spl_two, List.length_map]
theorem spc_at0 {l : List (Int × Int)} {k : Nat} (h : k < l.length) : (SpC l)[k * 2 + 0]? = some (VI l[k]!.1) := flat_at spl_two (spl_at h) rfl
theorem spc_at1 {l : List (Int × Int)} {k : Nat} (h : k < l.length) : (SpC l)[k * 2 + 1]? = some (VI l[k]!.2) := flat_at spl_two (spl_at h) rfl
theorem spc_set0 {l : List (Int × Int)} {k : Nat} {a : Int} (h : k < l.length) : (SpC l).set (k * 2 + 0) (VI a) = SpC (l.set k (a, l[k]!.2)) := by
  show (l.map Spl).flatten.set _ _ = _
  rw [flat_set spl_two (spl_at h) (by decide)]
  show ((l.map Spl).set k (Spl (a, l[k]!.2))).flatten = _
  rw [← List.map_set]
theorem spc_set1 {l : List (Int × Int)} {k : Nat} {a : Int} (h : k < l.length) : (SpC l).set (k * 2 + 1) (VI a) = SpC (l.set k (l[k]!.1, a)) := by
  show (l.map Spl).flatten.set _ _ = _
  rw [flat_set spl_two (spl_at h) (by decide)]
  show ((l.map Spl).set k (Spl (l[k]!.1, a))).flatten = _
  rw [← List.map_set]
theorem sp_adr {b n c : Nat} {i : Int} (h0 : 0 ≤ i) (h1 : i < n) : aindexAddr Try.prog sS (.slice (some ⟨b, 0, none⟩) n c) (.int .i64 i) = some (.pointer (some ⟨b, i.toNat * 2, none⟩)) := by
  simp [aindexAddr, asIdx, unSs2, szSp, h0, h1]
theorem zcSs : zeroCellsW Try.prog sS = some [nilS] := by kernel_rfl
theorem alSs {H : Heap} : sAlloc Try.prog H sS = some (.pointer (some ⟨H.n, 0, none⟩), H.new (.cells [nilS] sS 1), H.n) := alloc_ofW zcSs
theorem szSs : sizeB Try.prog sS = some 1 := by kernel_rfl
theorem agSs : isAggB Try.prog sS = some false := by kernel_rfl
theorem buSp0 : abuild Try.prog 23 [] = some (Spv 0 0) := by kernel_rfl
theorem buSpR {H : Heap} {a b : Int} : abuildSlice Try.prog H sS 1 [(0, Spv a b)] = some (.slice (some ⟨H.n, 0, none⟩) 1 0, H.new (.cells [VI a, VI b] sT 2), H.n) := by kernel_rfl
theorem sp_row1 {H : Heap} {b : Nat} {x y : Int} (hb : b < H.n) (hg : H.get b = some (.cells [VI x, VI y] sT 2)) : RowS 2 H (.slice (some ⟨b, 0, none⟩) 1 0) [[VI x, VI y]] := by
  refine ⟨by simp, .inr (.inr ⟨b, 0, 0, _, sT, 2, rfl, hb, hg, by decide, by simp, fun j q r w hj hq => ?_⟩)⟩
  have := flat_at (s := 2) (rs := [[VI x, VI y]]) (by simp) hj hq
  simpa using this
end Go.Proofs.Ytijimplcjaeneaa
