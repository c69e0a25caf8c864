
/- The reference's stories. -/
import Derived.Test.Ytijimplcjaeneaal2o
set_option linter.unusedVariables false
set_option linter.unusedSimpArgs false
namespace Go.Proofs.Ytijimplcjaeneaa
open Go.AI
abbrev ySs : TypeId := 116
theorem unYs : Try.prog.underlying ySs = some (.slice yS) := by kernel_rfl
theorem zeroStb : zeroBB Try.prog yS = some ([nilS, nilS, nilS], 72) := by kernel_rfl
abbrev V3 := Value × Value × Value
abbrev Sto3 (r : V3) : List Value := [r.1, r.2.1, r.2.2]
/-- Stories, in a row of one's own. -/
structure StoRow (mk lo hi : Int) (ls : List Lk) (H : Heap) (v : Value) (rs : List V3) (S : List (List Int)) (B : Nat) : Prop where
  o : OwnS yS 3 H v (rs.map Sto3) B
  n : rs.length = S.length
  i : ∀ j, j < S.length → Own 3 H rs[j]!.1 (S[j]!.map VI) B ∧ Own 3 H rs[j]!.2.1 ((leastL mk lo hi ls S[j]!).map VI) B ∧ Own 3 H rs[j]!.2.2 ((mostL mk lo hi ls S[j]!).map VI) B
theorem ownS_ne {e e' : TypeId} (he : e ≠ e') {s : Nat} {H : Heap} {v v' : Value} {vs : List Value} {rs : List (List Value)} {B B' : Nat} (h : Own e H v vs B) (h' : OwnS e' s H v' rs B') : ∀ c, blkOf v = some c → blkOf v' ≠ some c := by
  rcases h with ⟨rfl, _⟩ | ⟨b, rfl, _, _, h4⟩
  · intro c hc; cases hc
  · rcases h'.2 with ⟨rfl, _⟩ | ⟨b', rfl, _, _, h4'⟩
    · intro c _ hc; cases hc
    · intro c hc hc'
      cases hc; cases hc'
      rw [h4] at h4'
      have h5 := Option.some.inj h4'
      injection h5 with _ h6 _
      exact he h6
theorem StoRow.keep {mk lo hi : Int} {ls : List Lk} {H H' : Heap} {v : Value} {rs : List V3} {S : List (List Int)} {B : Nat} (h : StoRow mk lo hi ls H v rs S B) (k : Keep H H') : StoRow mk lo hi ls H' v rs S B :=
  ⟨OwnS.keep h.o k, h.n, fun j hj => ⟨(h.i j hj).1.keep k, (h.i j hj).2.1.keep k, (h.i j hj).2.2.keep k⟩⟩
theorem StoRow.low {mk lo hi : Int} {ls : List Lk} {H : Heap} {v : Value} {rs : List V3} {S : List (List Int)} {B B' : Nat} (h : StoRow mk lo hi ls H v rs S B) (hB : B' ≤ B) : StoRow mk lo hi ls H v rs S B' :=
  ⟨OwnS.low h.o hB, h.n, fun j hj => ⟨Own.lower (h.i j hj).1 hB, Own.lower (h.i j hj).2.1 hB, Own.lower (h.i j hj).2.2 hB⟩⟩
theorem StoRow.nil {mk lo hi : Int} {ls : List Lk} {H : Heap} {B : Nat} : StoRow mk lo hi ls H nilS [] [] B := ⟨⟨fun r hr => by simp at hr, .inl ⟨rfl, rfl⟩⟩, rfl, fun j hj => absurd hj (by simp)⟩
theorem snoc_l {α : Type} [Inhabited α] {l : List α} {x : α} {j : Nat} (h : j < l.length) : (l ++ [x])[j]! = l[j]! := by
  rw [getElem!_pos _ j (by rw [List.length_append]; omega), List.getElem_append_left h, getElem!_pos l j h]
theorem snoc_r {α : Type} [Inhabited α] {l : List α} {x : α} : (l ++ [x])[l.length]! = x := by
  rw [getElem!_pos _ _ (by rw [List.length_append, List.length_singleton]; omega), List.getElem_append_right (Nat.le_refl _)]
  simp
theorem buStR {H : Heap} {x y z : Value} (hx : oneC x = true) (hy : oneC y = true) (hz : oneC z = true) : abuildSlice Try.prog H ySs 1 [(0, Stv x y z)] = some (.slice (some ⟨H.n, 0, none⟩) 1 0, H.new (.cells [x, y, z] yS 2), H.n) :=
  build_oneS (row := [x, y, z]) unYs zeroStb (by decide) rfl
theorem StoRow.push {mk lo hi : Int} {ls : List Lk} {K : Value → Heap → Prop} {B B0 : Nat} {H : Heap} {v a b c : Value} {rs : List V3} {S : List (List Int)} {o : List Int} (h : StoRow mk lo hi ls H v rs S B0) (ha : Own 3 H a (o.map VI) B0) (hb : Own 3 H b ((leastL mk lo hi ls o).map VI) B0) (hc : Own 3 H c ((mostL mk lo hi ls o).map VI) B0) (hB0 : B0 ≤ H.n) (hB : B ≤ B0) (hn : S.length < 1000000)
    (hk : ∀ r H', StoRow mk lo hi ls H' r (rs ++ [(a, b, c)]) (S ++ [o]) B0 → KeepBut v H H' → (∀ x, blkOf r = some x → H.n ≤ x) → K r H') :
    ∃ w H' p, aappend Try.prog (H.new (.cells [a, b, c] yS 2)) #[ySs, ySs] v (.slice (some ⟨H.n, 0, none⟩) 1 0) = some (w, H', p) ∧ B ≤ p ∧ K w H' := by
  refine append_askS (z := [nilS, nilS, nilS]) (row := [a, b, c]) unYs zeroStb (by decide) rfl h.o hB0 hB (by rw [List.length_map, h.n]; exact hn) ?_
  intro r H' ho kb hf
  have hne : ∀ {u : Value} {us : List Value}, Own 3 H u us B0 → Own 3 H' u us B0 := fun {u us} hu => own_keepF hu kb.le fun x hx => kb.get x (hu.lt hx).2 (ownS_ne (by decide) hu h.o x hx)
  refine hk r H' ⟨by rw [List.map_append]; exact ho, by simp [h.n], fun j hj => ?_⟩ kb hf
  rw [List.length_append, List.length_singleton] at hj
  by_cases hj2 : j < S.length
  · rw [snoc_l hj2, snoc_l (by rw [h.n]; exact hj2)]
    have := h.i j hj2
    exact ⟨hne this.1, hne this.2.1, hne this.2.2⟩
  · obtain rfl : j = S.length := by omega
    rw [snoc_r]
    have h2 : (rs ++ [(a, b, c)])[S.length]! = (a, b, c) := by rw [← h.n, snoc_r]
    rw [h2]
    exact ⟨hne ha, hne hb, hne hc⟩
theorem KeepBut.via {u w : Value} {X X1 X2 : Heap} (h : KeepBut u X X1) (k : KeepBut w X1 X2) (hw : ∀ c, blkOf w = some c → blkOf u = some c ∨ X.n ≤ c) : KeepBut u X X2 :=
  ⟨Nat.le_trans h.le k.le, fun c hc hne => (k.get c (Nat.lt_of_lt_of_le hc h.le) fun e => by rcases hw c e with h1 | h1; exact hne h1; omega).trans (h.get c hc hne)⟩
theorem growRP_len {ls : List Lk} {ok : List Int → Bool} (h7 : ls.length ≤ 7) {r : Nat} {pre : List Int} {o : Int} : ∀ k, (growRP ls ok r pre o k).length ≤ k * 7 ^ r
  | 0 => by simp [growRP]
  | k + 1 => by
    rw [growRP_succ, List.length_append, Nat.succ_mul]
    have := growRP_len (ok := ok) h7 (r := r) (pre := pre) (o := o) k
    have : (if (decide (ls[k]!.f = o) && !decide ((k : Int) ∈ pre)) = true then growR ls ok r (pre ++ [(k : Int)]) ls[k]!.t else []).length ≤ 7 ^ r := by
      split
      · exact growR_len h7
      · simp
    omega
theorem lk_f0 {H : Heap} {v : Value} {ls : List Lk} (hr : RowS 4 H v (ls.map Lkl)) {j : Nat} (hj : j < ls.length) : afieldAddr Try.prog 28 (elemS v 4 j) 0 = some (fieldOf (elemS v 4 j) 0) ∧ aload Try.prog 3 H (fieldOf (elemS v 4 j) 0) = some (VI ls[j]!.f) :=
  ⟨hr.faddr foL0 (by decide) (by rw [List.length_map]; exact hj), hr.fload ag3 (lk_at hj) rfl⟩
theorem lk_f1r {H : Heap} {v : Value} {ls : List Lk} (hr : RowS 4 H v (ls.map Lkl)) {j : Nat} (hj : j < ls.length) : afieldAddr Try.prog 28 (elemS v 4 j) 1 = some (fieldOf (elemS v 4 j) 1) ∧ aload Try.prog 3 H (fieldOf (elemS v 4 j) 1) = some (VI ls[j]!.t) :=
  ⟨hr.faddr foL1 (by decide) (by rw [List.length_map]; exact hj), hr.fload ag3 (lk_at hj) rfl⟩
end Go.Proofs.Ytijimplcjaeneaa
