
/- What happens in the stories that have an order. -/
import Derived.Test.YtijimplcjaeneaaGreatDoorc3z
set_option linter.unusedVariables false
set_option linter.unusedSimpArgs false
namespace Go.Proofs.YtijimplcjaeneaaGreatDoor
open Go.AI
structure Ev where
  k : Int
  o : Int
  lo : Int
  hi : Int
deriving Inhabited
abbrev Evl (e : Ev) : List Value := [VI e.k, VI e.o, VI e.lo, VI e.hi]
abbrev Evv (e : Ev) : Value := .agg #[VI e.k, VI e.o, VI e.lo, VI e.hi]
theorem agEv : isAggB Tryz.prog 125 = some true := by kernel_rfl
theorem szEv : sizeB Tryz.prog 125 = some 4 := by kernel_rfl
theorem unEv : Tryz.prog.underlying 108 = some (.slice 125) := by kernel_rfl
theorem foE1 : fieldOff Tryz.prog 125 1 = some (1, 1) := by kernel_rfl
theorem foE2 : fieldOff Tryz.prog 125 2 = some (2, 2) := by kernel_rfl
theorem zeroEv : zeroCellsW Tryz.prog 125 = some (Evl ⟨0, 0, 0, 0⟩) := by kernel_rfl
theorem zeroEvb : zeroBB Tryz.prog 125 = some (Evl ⟨0, 0, 0, 0⟩, 32) := by kernel_rfl
theorem alEv {H : Heap} : sAlloc Tryz.prog H 125 = some (.pointer (some ⟨H.n, 0, none⟩), H.new (.cells (Evl ⟨0, 0, 0, 0⟩) 125 1), H.n) := alloc_ofW zeroEv
theorem stEv {H : Heap} {b k : Nat} {c d : Ev} {e : TypeId} (hg : H.get b = some (.cells (Evl c) e (k + 1))) : astore Tryz.prog 125 H (Evv d) (.pointer (some ⟨b, 0, none⟩)) = some (H.set b (.cells (Evl d) e (k + 1)), b) := store_allW (vs := Evl d) hg rfl szEv rfl
theorem buEv {a b c d : Int} : abuild Tryz.prog 125 [(0, VI a), (1, VI b), (2, Spv c d)] = some (Evv ⟨a, b, c, d⟩) := by kernel_rfl
theorem buSp {c d : Int} : abuild Tryz.prog 23 [(0, VI c), (1, VI d)] = some (Spv c d) := by kernel_rfl
theorem evOne {H : Heap} {x : Ev} : abuildSlice Tryz.prog H 108 1 [(0, Evv x)] = some (.slice (some ⟨H.n, 0, none⟩) 1 0, H.new (.cells (Evl x) 125 2), H.n) :=
  build_oneS (row := Evl x) unEv zeroEvb (by decide) rfl
abbrev OwnE (H : Heap) (v : Value) (l : List Ev) (B : Nat) : Prop := OwnS 125 4 H v (l.map Evl) B
theorem evPush {K : Value → Heap → Prop} {B B0 : Nat} {H : Heap} {x : Value} {l : List Ev} {d : Ev} (hx : OwnE H x l B0) (hB0 : B0 ≤ H.n) (hB : B ≤ B0) (hn : l.length < 1000000)
    (hk : ∀ r H', OwnE H' r (l ++ [d]) B0 → KeepBut x H H' → (∀ c, blkOf r = some c → H.n ≤ c) → K r H') :
    ∃ v H' b, aappend Tryz.prog (H.new (.cells (Evl d) 125 2)) #[108, 108] x (.slice (some ⟨H.n, 0, none⟩) 1 0) = some (v, H', b) ∧ B ≤ b ∧ K v H' :=
  append_askS (z := Evl ⟨0, 0, 0, 0⟩) unEv zeroEvb (by decide) rfl hx hB0 hB (by rw [List.length_map]; exact hn) (fun r H' ho => hk r H' (by rw [OwnE, List.map_append]; exact ho))
theorem ev_at {l : List Ev} {j : Nat} (hj : j < l.length) : (l.map Evl)[j]? = some (Evl l[j]!) := by rw [List.getElem?_map, List.getElem?_eq_getElem hj, getElem!_pos l j hj]; rfl
theorem ev_len {H : Heap} {v : Value} {l : List Ev} (h : RowS 4 H v (l.map Evl)) : alen Tryz.prog H 108 v = some (.int .i64 l.length) := by
  have := h.alen unEv; rwa [List.length_map] at this
theorem ev_addr {H : Heap} {v : Value} {l : List Ev} (h : RowS 4 H v (l.map Evl)) {n : Int} (h0 : 0 ≤ n) (h1 : n < l.length) : aindexAddr Tryz.prog 108 v (.int .i64 n) = some (elemS v 4 n.toNat) := h.addr unEv szEv h0 (by rw [List.length_map]; exact h1)
theorem ev_load {H : Heap} {v : Value} {l : List Ev} (h : RowS 4 H v (l.map Evl)) {j : Nat} (hj : j < l.length) : aload Tryz.prog 125 H (elemS v 4 j) = some (Evv l[j]!) := h.load agEv szEv (ev_at hj)
/-- A row of events that is there lies in one block. -/
theorem evCells {H : Heap} {v : Value} {l : List Ev} {B : Nat} (h : OwnE H v l B) (hne : 0 < l.length) : ∃ b, v = .slice (some ⟨b, 0, none⟩) l.length 0 ∧ B ≤ b ∧ b < H.n ∧ H.get b = some (.cells (l.map Evl).flatten 125 2) := by
  rcases h.2 with ⟨_, h2⟩ | ⟨b, h1, h2, h3, h4⟩
  · have h3 : l = [] := by simpa using h2
    rw [h3] at hne
    simp at hne
  · exact ⟨b, by rw [h1, List.length_map], h2, h3, h4⟩
theorem evRows {l : List Ev} : ∀ r ∈ l.map Evl, r.length = 4 := by
  intro r hr
  obtain ⟨e, _, rfl⟩ := List.mem_map.1 hr
  rfl
theorem ev_cell {l : List Ev} {j q : Nat} {w : Value} (hj : j < l.length) (hq : (Evl l[j]!)[q]? = some w) : (l.map Evl).flatten[j * 4 + q]? = some w := flat_at evRows (ev_at hj) hq
theorem ev_adr {b n c : Nat} {i : Int} (h0 : 0 ≤ i) (h1 : i < n) : aindexAddr Tryz.prog 108 (.slice (some ⟨b, 0, none⟩) n c) (.int .i64 i) = some (.pointer (some ⟨b, i.toNat * 4, none⟩)) := by
  simp [aindexAddr, asIdx, unEv, szEv, h0, h1]
theorem ev_sl {X : Heap} {b n c : Nat} : alen Tryz.prog X 108 (.slice (some ⟨b, 0, none⟩) n c) = some (VI n) := by simp [alen, unEv]
/-- The events of an order with their soonest days. -/
def upL (ls : List Lk) : Int → List Int → List Ev
  | _, [] => []
  | p, k :: t => ⟨k, ls[k.toNat]!.t, max ls[k.toNat]!.lo (p + 1), ls[k.toNat]!.hi⟩ :: upL ls (max ls[k.toNat]!.lo (p + 1)) t
theorem upL_len {ls : List Lk} : ∀ {o : List Int} {p : Int}, (upL ls p o).length = o.length
  | [], _ => rfl
  | k :: t, p => by simp only [upL, List.length_cons, upL_len]
theorem upL_snoc {ls : List Lk} {k : Int} : ∀ {t : List Int} {a : Ev}, a :: upL ls a.lo (t ++ [k]) = (a :: upL ls a.lo t) ++ [⟨k, ls[k.toNat]!.t, max ls[k.toNat]!.lo ((a :: upL ls a.lo t)[t.length]!.lo + 1), ls[k.toNat]!.hi⟩]
  | [], a => rfl
  | k0 :: t, a => by
    have ih := upL_snoc (ls := ls) (k := k) (t := t) (a := ⟨k0, ls[k0.toNat]!.t, max ls[k0.toNat]!.lo (a.lo + 1), ls[k0.toNat]!.hi⟩)
    simp only [List.cons_append, upL]
    rw [List.cons_append] at ih
    rw [ih]
    rfl
theorem upL_bd {ls : List Lk} (h : LsOk ls) : ∀ {o : List Int} {p : Int}, (∀ k ∈ o, 0 ≤ k ∧ k < ls.length) → 0 ≤ p → ∀ (j : Nat), j < o.length → (0 ≤ (upL ls p o)[j]!.lo ∧ (upL ls p o)[j]!.lo ≤ max 100000 p + (j + 1)) ∧ 0 ≤ (upL ls p o)[j]!.hi ∧ (upL ls p o)[j]!.hi ≤ 100000
  | [], p, _, _, j, hj => by simp at hj
  | k :: t, p, hk, hp, j, hj => by
    have hk0 := hk k (List.mem_cons_self ..)
    have a := h.lo k.toNat (by omega)
    have b := h.hi k.toNat (by omega)
    cases j with
    | zero => 
      simp only [upL, List.getElem!_cons_zero]
      omega
    | succ j =>
      have ih := upL_bd h (o := t) (p := max ls[k.toNat]!.lo (p + 1)) (fun k hk' => hk k (List.mem_cons_of_mem _ hk')) (by omega) j (by simpa using hj)
      simp only [upL, List.getElem!_cons_succ]
      omega
/-- The latest days, with all that comes behind. -/
def downL : List Ev → List Ev
  | [] => []
  | e :: t => match downL t with
    | [] => [e]
    | f :: r => ⟨e.k, e.o, e.lo, min e.hi (f.hi - 1)⟩ :: f :: r
theorem downL_len : ∀ {E : List Ev}, (downL E).length = E.length
  | [] => rfl
  | e :: t => by
    have ih := downL_len (E := t)
    unfold downL
    cases hd : downL t with
    | nil => rw [hd] at ih; simp only [List.length_nil, List.length_cons] at ih ⊢; omega
    | cons f r => rw [hd] at ih; simp only [List.length_cons] at ih ⊢; omega
theorem downL_last : ∀ {E : List Ev}, 0 < E.length → (downL E)[E.length - 1]! = E[E.length - 1]!
  | [e], _ => rfl
  | e :: e2 :: t, _ => by
    have ih := downL_last (E := e2 :: t) (by simp)
    have hl := downL_len (E := e2 :: t)
    unfold downL
    cases hd : downL (e2 :: t) with
    | nil => rw [hd] at hl; simp at hl
    | cons f r =>
      rw [hd] at ih
      simp only [List.length_cons, Nat.add_one_sub_one] at ih ⊢
      rw [List.getElem!_cons_succ, List.getElem!_cons_succ]
      exact ih
theorem downL_at : ∀ {E : List Ev} {j : Nat}, j + 1 < E.length → (downL E)[j]! = ⟨E[j]!.k, E[j]!.o, E[j]!.lo, min E[j]!.hi ((downL E)[j + 1]!.hi - 1)⟩
  | e :: t, j, hj => by
    have hl := downL_len (E := t)
    simp only [List.length_cons] at hj
    unfold downL
    cases hd : downL t with
    | nil => rw [hd] at hl; simp at hl; omega
    | cons f r =>
      cases j with
      | zero => rfl
      | succ j =>
        have ih := downL_at (E := t) (j := j) (by omega)
        rw [hd] at ih
        simp only [List.getElem!_cons_succ]
        exact ih
theorem downL_bd : ∀ {E : List Ev}, (∀ j, j < E.length → 0 ≤ E[j]!.hi ∧ E[j]!.hi ≤ 100000) → ∀ j, j < E.length → -(E.length : Int) ≤ (downL E)[j]!.hi ∧ (downL E)[j]!.hi ≤ 100000
  | [], _, j, hj => by simp at hj
  | e :: t, h, j, hj => by
    have hl := downL_len (E := t)
    have ih := downL_bd (E := t) fun j hj => by have := h (j + 1) (by simpa using hj); rwa [List.getElem!_cons_succ] at this
    have h0 := h 0 (by simp)
    rw [List.getElem!_cons_zero] at h0
    unfold downL
    simp only [List.length_cons] at hj ⊢
    cases hd : downL t with
    | nil =>
      rw [hd] at hl; simp at hl
      obtain rfl : j = 0 := by omega
      simp only [List.getElem!_cons_zero]; omega
    | cons f r =>
      rw [hd] at ih hl
      simp only [List.length_cons] at hl
      cases j with
      | zero =>
        have := ih 0 (by omega)
        simp only [List.getElem!_cons_zero] at this ⊢
        omega
      | succ j =>
        have := ih j (by omega)
        simp only [List.getElem!_cons_succ]
        omega
def evs0 (mk lo hi : Int) (ls : List Lk) (o : List Int) : List Ev := ⟨-1, mk, lo, hi⟩ :: upL ls lo o
def evsL (mk lo hi : Int) (ls : List Lk) (o : List Int) : List Ev := downL (evs0 mk lo hi ls o)
theorem evs0_len {mk lo hi : Int} {ls : List Lk} {o : List Int} : (evs0 mk lo hi ls o).length = o.length + 1 := by rw [evs0, List.length_cons, upL_len]
theorem evs0_bd {mk lo hi : Int} {ls : List Lk} {o : List Int} (h : LsOk ls) (ho : ∀ k ∈ o, 0 ≤ k ∧ k < ls.length) (h0 : 0 ≤ lo) (h1 : lo ≤ 100000) (h2 : 0 ≤ hi) (h3 : hi ≤ 100000) : ∀ j, j < (evs0 mk lo hi ls o).length → (0 ≤ (evs0 mk lo hi ls o)[j]!.lo ∧ (evs0 mk lo hi ls o)[j]!.lo ≤ 100000 + j) ∧ 0 ≤ (evs0 mk lo hi ls o)[j]!.hi ∧ (evs0 mk lo hi ls o)[j]!.hi ≤ 100000 := by
  intro j hj
  rw [evs0_len] at hj
  unfold evs0
  cases j with
  | zero => simp only [List.getElem!_cons_zero]; omega
  | succ j =>
    have := upL_bd h ho h0 j (by omega)
    rw [List.getElem!_cons_succ]
    omega
end Go.Proofs.YtijimplcjaeneaaGreatDoor

