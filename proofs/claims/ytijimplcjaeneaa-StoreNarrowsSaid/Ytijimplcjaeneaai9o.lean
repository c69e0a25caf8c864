
/- StoreNarrows: what it calls. -/
import Derived.Test.Ytijimplcjaeneaai8o
set_option linter.unusedVariables false
set_option linter.unusedSimpArgs false
namespace Go.Proofs.Ytijimplcjaeneaa
open Go.AI
theorem lkNone {H : Heap} : abuildSlice Try.prog H 24 0 [] = some (.slice (some ⟨H.n, 0, none⟩) 0 0, H.new (.cells [] 28 2), H.n) := by kernel_rfl
set_option maxHeartbeats 4000000 in
set_option maxRecDepth 100000 in
theorem ownChain_spec {B : Nat} {H : Heap} {mk lo hh : Int} {sv : Value} {ls : List Lk} (hB : B ≤ H.n) (hr : RowS 4 H sv (ls.map Lkl)) (hn : ls.length < 1000000) :
    CallB Try.prog B 21 [Chv mk lo hh sv] H (fun v H' => (∃ q, v = Chv mk lo hh q ∧ OwnLk H' q ls H.n) ∧ Keep H H') := by
  refine CV.enter callees false rfl Try.func21 rfl (by kernel_rfl) (Nat.le_of_ble_eq_true rfl) hB ?_
  repeat' first
    | refine CO.cons rfl ?_
    | refine CV.seq ?_
    | refine CV.region callees ?_
    | fail
  refine ⟨(by simp only [notTuple]), ?_⟩
  rw [boxCh hr.cells.1]
  generalize hs0 : Heap.new H _ = H0
  have hg0 := new_get hs0
  have k0 := new_keep hs0
  have n0 := new_n hs0
  obtain ⟨b0, hbn0⟩ : ∃ b, Heap.n H = b := ⟨_, rfl⟩
  rw [hbn0] at hg0 n0 ⊢
  repeat' first
    | refine CO.cons rfl ?_
    | refine CO.nil ?_
    | refine CV.seq ?_
    | refine CV.region callees ?_
    | (refine ⟨_, _, alCh, ?_⟩)
    | fail
  generalize hs1 : Heap.new H0 _ = H1
  have hg1 := new_get hs1
  have k1 := new_keep hs1
  have n1 := new_n hs1
  obtain ⟨b1, hbn1⟩ : ∃ b, Heap.n H0 = b := ⟨_, rfl⟩
  rw [hbn1] at hg1 n1 ⊢
  have hc1 := (k1.2 b0 (by omega)).trans hg0
  have hr1 : RowS 4 H1 sv (ls.map Lkl) := hr.keep (k0.trans k1)
  have hcN : (H1.new (.cells [] 28 2)).get b0 = some (.cells (Chl mk lo hh sv) 26 1) := by rw [Heap.get_new_ne _ _ (by omega)]; exact hc1
  repeat' first
    | refine CO.cons rfl ?_
    | (refine ⟨_, _, lkNone, ?_⟩)
    | (refine ⟨_, fS foC2 (by decide), ?_⟩)
    | (refine ⟨_, cell_load agLs hcN rfl, ?_⟩)
    | fail
  refine copy_askS (z := Lkl ⟨0, 0, 0, 0⟩) unLs zeroLkb (by decide) hr1 (by omega) (by rw [List.length_map]; exact hn) ?_
  intro q H2 ho k2
  have l2 := k2.1
  have hc2 := (k2.2 b0 (by omega)).trans hc1
  have hz2 := (k2.2 b1 (by omega)).trans hg1
  have hqb : ∀ c, blkOf q = some c → H1.n ≤ c := fun c hc => (ho.lt hc).1
  repeat' first
    | refine CO.cons rfl ?_
    | (refine ⟨_, fS foC2 (by decide), ?_⟩)
    | fail
  refine ⟨_, _, store_row (i := 0 + 3) szLs hc2 (by show 3 < 4; decide) (OwnS.oneC ho), by omega, ?_⟩
  generalize hs3 : Heap.set H2 b0 _ = H3
  have hg3 : H3.get b0 = some (.cells (Chl mk lo hh q) 26 1) := set_get hs3
  have n3 := set_n hs3
  have o3 := set_old hs3
  have hz3 := (o3 b1 (by omega)).trans hz2
  have ho3 : OwnLk H3 q ls H1.n := OwnS.keepX ho ⟨by omega, fun c hc hcl => o3 c hcl⟩ hc2
  repeat' first
    | refine CO.cons rfl ?_
    | refine CO.nil ?_
    | refine CV.seq ?_
    | refine CV.region callees ?_
    | (refine ⟨_, ldCh hg3, ?_⟩)
    | fail
  refine ⟨_, _, stCh hz3 (OwnS.oneC ho), by omega, ?_⟩
  generalize hs4 : Heap.set H3 b1 _ = H4
  have hg4 : H4.get b1 = some (.cells (Chl mk lo hh q) 26 1) := set_get hs4
  have n4 := set_n hs4
  have o4 := set_old hs4
  have ho4 : OwnLk H4 q ls H1.n := OwnS.keepX ho3 ⟨by omega, fun c hc hcl => o4 c hcl⟩ hz3
  repeat' first
    | refine CO.nil ?_
    | refine CV.ret ?_
    | fail
  exact ⟨_, ldCh hg4, rfl, ⟨q, rfl, OwnS.low ho4 (by omega)⟩, keep_put (keep_put ((k0.trans k1).trans k2) (by omega) o3 n3) (by omega) o4 n4⟩
def inS (a b : Int × Int) : Bool := decide (b.1 ≤ a.1) && decide (a.2 ≤ b.2)
set_option maxRecDepth 100000 in
theorem inside_spec {B : Nat} {H : Heap} {a b c d : Int} (hB : B ≤ H.n) :
    CallB Try.prog B 66 [Spv a b, Spv c d] H (fun v H' => v = .bool (inS (a, b) (c, d)) ∧ Keep H H') := by
  refine CV.enter callees false rfl Try.func66 rfl (by kernel_rfl) (Nat.le_of_ble_eq_true rfl) hB ?_
  repeat' first
    | refine CO.cons rfl ?_
    | refine CV.seq ?_
    | refine CV.region callees ?_
    | fail
  refine ⟨(by simp only [notTuple]), ?_⟩
  rw [boxSp]
  generalize hs0 : Heap.new H _ = H0
  have hg0 := new_get hs0
  have k0 := new_keep hs0
  have n0 := new_n hs0
  obtain ⟨b0, hbn0⟩ : ∃ b, Heap.n H = b := ⟨_, rfl⟩
  rw [hbn0] at hg0 n0 ⊢
  repeat' first
    | refine CO.cons rfl ?_
    | fail
  refine ⟨(by simp only [notTuple]), ?_⟩
  rw [boxSp]
  generalize hs1 : Heap.new H0 _ = H1
  have hg1 := new_get hs1
  have k1 := new_keep hs1
  have n1 := new_n hs1
  obtain ⟨b1, hbn1⟩ : ∃ b, Heap.n H0 = b := ⟨_, rfl⟩
  rw [hbn1] at hg1 n1 ⊢
  have hg01 := (k1.2 b0 (by omega)).trans hg0
  by_cases h1 : c ≤ a
  · by_cases h2 : b ≤ d
    · repeat' first
        | refine CO.cons rfl ?_
        | refine CO.nil ?_
        | refine CV.seq ?_
        | refine CV.region callees ?_
        | refine CV.ret ?_
        | refine CO.consG rfl ?_
        | (refine ⟨_, fS foS0 (by decide), ?_⟩)
        | (refine ⟨_, fS foS1 (by decide), ?_⟩)
        | (refine ⟨_, cell_load ag3 hg01 rfl, ?_⟩)
        | (refine ⟨_, cell_load ag3 hg1 rfl, ?_⟩)
        | (refine ⟨fun _ => ?_, fun _ => ?_⟩ <;> first | (exfalso; omega) | skip)
        | fail
      exact ⟨rfl, by simp [inS, h1, h2], k0.trans k1⟩
    · repeat' first
        | refine CO.cons rfl ?_
        | refine CO.nil ?_
        | refine CV.seq ?_
        | refine CV.region callees ?_
        | refine CV.ret ?_
        | refine CO.consG rfl ?_
        | (refine ⟨_, fS foS0 (by decide), ?_⟩)
        | (refine ⟨_, fS foS1 (by decide), ?_⟩)
        | (refine ⟨_, cell_load ag3 hg01 rfl, ?_⟩)
        | (refine ⟨_, cell_load ag3 hg1 rfl, ?_⟩)
        | (refine ⟨fun _ => ?_, fun _ => ?_⟩ <;> first | (exfalso; omega) | skip)
        | fail
      exact ⟨rfl, by simp [inS, h2], k0.trans k1⟩
  · repeat' first
      | refine CO.cons rfl ?_
      | refine CO.nil ?_
      | refine CV.seq ?_
      | refine CV.region callees ?_
      | refine CV.ret ?_
      | refine CO.consG rfl ?_
      | (refine ⟨_, fS foS0 (by decide), ?_⟩)
      | (refine ⟨_, cell_load ag3 hg01 rfl, ?_⟩)
      | (refine ⟨_, cell_load ag3 hg1 rfl, ?_⟩)
      | (refine ⟨fun _ => ?_, fun _ => ?_⟩ <;> first | (exfalso; omega) | skip)
      | fail
    exact ⟨rfl, by simp [inS, h1], k0.trans k1⟩
/-- The day of a link, read and written. -/
theorem lk_day {H : Heap} {v : Value} {ls : List Lk} (hr : RowS 4 H v (ls.map Lkl)) {i : Nat} (hi : i < ls.length) : afieldAddr Try.prog 28 (elemS v 4 i) 2 = some (fieldOf (elemS v 4 i) 2) ∧ aload Try.prog sT H (fieldOf (elemS v 4 i) 2) = some (Spv ls[i]!.lo ls[i]!.hi) := by
  refine ⟨hr.faddr foL2 (by decide) (by rw [List.length_map]; exact hi), ?_⟩
  have hj := lk_at hi
  rcases hr.2 with ⟨_, h0⟩ | ⟨_, h0⟩ | ⟨b, o, c, cs, e, k, rfl, _, hb, _, hle, hc⟩
  · rw [List.map_eq_nil_iff] at h0; subst h0; cases hi
  · rw [List.map_eq_nil_iff] at h0; subst h0; cases hi
  · have h2 := hc i 2 _ _ hj rfl
    have h3 := hc i 3 _ _ hj rfl
    have l2 := (List.getElem?_eq_some_iff.1 h2).1
    have l3 := (List.getElem?_eq_some_iff.1 h3).1
    simp only [elemS, fieldOf, aload, hb, agSp, szSp]
    rw [if_pos (by omega)]
    congr 2
    apply Array.toList_inj.1
    show (cs.drop (o + i * 4 + 2)).take 2 = [VI ls[i]!.lo, VI ls[i]!.hi]
    rw [List.drop_eq_getElem_cons l2, List.drop_eq_getElem_cons (by omega : o + i * 4 + 2 + 1 < cs.length)]
    simp only [List.take_succ_cons, List.take_zero]
    rw [(List.getElem?_eq_some_iff.1 h2).2]
    congr 2
    exact (List.getElem?_eq_some_iff.1 h3).2
theorem lk_put {K : Heap → Prop} {B B0 i : Nat} {H : Heap} {v : Value} {ls : List Lk} {x y : Int} (h : OwnLk H v ls B0) (hB : B ≤ B0) (hi : i < ls.length)
    (hk : ∀ H', OwnLk H' v (ls.set i ⟨ls[i]!.f, ls[i]!.t, x, y⟩) B0 → KeepBut v H H' → K H') : ∃ H' b, astore Try.prog sT H (Spv x y) (fieldOf (elemS v 4 i) 2) = some (H', b) ∧ B ≤ b ∧ K H' := by
  have hrows := h.1
  have hj := lk_at hi
  rcases h.2 with ⟨_, h0⟩ | ⟨b0, rfl, h2, h3, h4⟩
  · rw [List.map_eq_nil_iff] at h0; subst h0; cases hi
  · have hfl := flat_len hrows
    rw [List.length_map] at hfl
    have he : fieldOf (elemS (.slice (some ⟨b0, 0, none⟩) (ls.map Lkl).length 0) 4 i) 2 = .pointer (some ⟨b0, i * 4 + 2, none⟩) := by simp [elemS, fieldOf]
    have hset : splice (ls.map Lkl).flatten (i * 4 + 2) [VI x, VI y] = ((ls.set i ⟨ls[i]!.f, ls[i]!.t, x, y⟩).map Lkl).flatten := by
      simp only [splice]
      rw [flat_set hrows hj (by decide)]
      have hrows2 : ∀ r ∈ (ls.map Lkl).set i ((Lkl ls[i]!).set 2 (VI x)), r.length = 4 := fun r hr => by
        rcases List.mem_or_eq_of_mem_set hr with h | h
        · exact hrows r h
        · rw [h]; rfl
      rw [show i * 4 + 2 + 1 = i * 4 + 3 from rfl, flat_set hrows2 (j := i) (q := 3) (r := (Lkl ls[i]!).set 2 (VI x)) (by rw [List.getElem?_set_self (by rw [List.length_map]; exact hi)]) (by decide), List.set_set, List.map_set]
      rfl
    refine ⟨H.set b0 (.cells ((ls.set i ⟨ls[i]!.f, ls[i]!.t, x, y⟩).map Lkl).flatten 28 2), b0, ?_, by omega, hk _ ⟨fun r hr => ?_, .inr ⟨b0, by simp, h2, h3, Heap.get_set_eq _ _ _⟩⟩ ⟨Nat.le_refl _, fun c hc hne => Heap.get_set_ne _ _ fun h => hne (by rw [h]; rfl)⟩⟩
    · rw [he]
      have h1 : (Value.agg [VI x, VI y].toArray).cells = [VI x, VI y].toArray := rfl
      show astore Try.prog sT H (Value.agg [VI x, VI y].toArray) _ = _
      simp only [astore, h4, h1, szSp, spliceQ_eq]
      rw [if_pos ⟨by simp, by rw [hfl]; show i * 4 + 2 + 2 ≤ ls.length * 4; omega, rfl, by rfl⟩, hset]
    · obtain ⟨e, _, rfl⟩ := List.mem_map.1 hr
      rfl
theorem nar_set {ls ms : List Lk} (h : Nar ls ms) {i : Nat} (hi : i < ls.length) {x y : Int} (h1 : ms[i]!.lo ≤ x) (h2 : x ≤ y) (h3 : y ≤ ms[i]!.hi) : Nar ls (ms.set i ⟨ms[i]!.f, ms[i]!.t, x, y⟩) := by
  have hn := h.n
  refine ⟨by rw [List.length_set]; exact hn, fun j hj => ?_⟩
  have hl := h.l j hj
  rw [getElem!_pos _ j (by rw [List.length_set]; omega), List.getElem_set]
  split
  · rename_i hij
    subst hij
    dsimp only
    exact ⟨hl.1, hl.2.1, by omega, h2, by omega⟩
  · rw [← getElem!_pos ms j (by omega)]; exact hl
theorem nar_self {ls : List Lk} (h : linksE ls = 0) : Nar ls ls := ⟨rfl, fun i hi => by
  have := linkE_bd (linksE_all h ls[i]! (by rw [getElem!_pos ls i hi]; exact List.getElem_mem _))
  exact ⟨rfl, rfl, Int.le_refl _, by omega, Int.le_refl _⟩⟩
end Go.Proofs.Ytijimplcjaeneaa
