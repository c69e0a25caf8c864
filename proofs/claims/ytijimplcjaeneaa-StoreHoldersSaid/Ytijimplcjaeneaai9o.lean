
/- StoreNarrows: what it calls. -/
import Derived.Test.Ytijimplcjaeneaai8o
set_option linter.unusedVariables false
set_option linter.unusedSimpArgs false
namespace Go.Proofs.Ytijimplcjaeneaa
open Go.AI
theorem lkNone {H : Heap} : abuildSlice Try.prog H 24 0 [] = some (.slice (some ⟨H.n, 0, none⟩) 0 0, H.new (.cells [] 28 2), H.n) := by kernel_rfl
set_option maxHeartbeats 4000000 in
set_option maxRecDepth 100000 in
theorem ownChain_spec {B : Nat} {H : Heap} {mk lo hh : Int} {sv : Value} {ls : List Lk} (hB : B ≤ H.n) (hr : RowS 4 H sv (ls.map Lkl)) (hn : ls.length < 1000000) :
    CallB Try.prog B 21 [Chv mk lo hh sv] H (fun v H' => (∃ q, v = Chv mk lo hh q ∧ OwnLk H' q ls H.n) ∧ Keep H H') := by
  refine CV.enter callees false rfl Try.func21 rfl (by kernel_rfl) (Nat.le_of_ble_eq_true rfl) hB ?_
  repeat' first
    | refine CO.cons rfl ?_
    | refine CV.seq ?_
    | refine CV.region callees ?_
    | fail
  refine ⟨(by simp only [notTuple]), ?_⟩
  rw [boxCh hr.cells.1]
  generalize hs0 : Heap.new H _ = H0
  have hg0 := new_get hs0
  have k0 := new_keep hs0
  have n0 := new_n hs0
  obtain ⟨b0, hbn0⟩ : ∃ b, Heap.n H = b := ⟨_, rfl⟩
  rw [hbn0] at hg0 n0 ⊢
  repeat' first
    | refine CO.cons rfl ?_
    | refine CO.nil ?_
    | refine CV.seq ?_
    | refine CV.region callees ?_
    | (refine ⟨_, _, alCh, ?_⟩)
    | fail
  generalize hs1 : Heap.new H0 _ = H1
  have hg1 := new_get hs1
  have k1 := new_keep hs1
  have n1 := new_n hs1
  obtain ⟨b1, hbn1⟩ : ∃ b, Heap.n H0 = b := ⟨_, rfl⟩
  rw [hbn1] at hg1 n1 ⊢
  have hc1 := (k1.2 b0 (by omega)).trans hg0
  have hr1 : RowS 4 H1 sv (ls.map Lkl) := hr.keep (k0.trans k1)
  have hcN : (H1.new (.cells [] 28 2)).get b0 = some (.cells (Chl mk lo hh sv) 26 1) := by rw [Heap.get_new_ne _ _ (by omega)]; exact hc1
  repeat' first
    | refine CO.cons rfl ?_
    | (refine ⟨_, _, lkNone, ?_⟩)
    | (refine ⟨_, fS foC2 (by decide), ?_⟩)
    | (refine ⟨_, cell_load agLs hcN rfl, ?_⟩)
    | fail
  refine copy_askS (z := Lkl ⟨0, 0, 0, 0⟩) unLs zeroLkb (by decide) hr1 (by omega) (by rw [List.length_map]; exact hn) ?_
  intro q H2 ho k2
  have l2 := k2.1
  have hc2 := (k2.2 b0 (by omega)).trans hc1
  have hz2 := (k2.2 b1 (by omega)).trans hg1
  have hqb : ∀ c, blkOf q = some c → H1.n ≤ c := fun c hc => (ho.lt hc).1
  repeat' first
    | refine CO.cons rfl ?_
    | (refine ⟨_, fS foC2 (by decide), ?_⟩)
    | fail
  refine ⟨_, _, store_row (i := 0 + 3) szLs hc2 (by show 3 < 4; decide) (OwnS.oneC ho), by omega, ?_⟩
  generalize hs3 : Heap.set H2 b0 _ = H3
  have hg3 : H3.get b0 = some (.cells (Chl mk lo hh q) 26 1) := set_get hs3
  have n3 := set_n hs3
  have o3 := set_old hs3
  have hz3 := (o3 b1 (by omega)).trans hz2
  have ho3 : OwnLk H3 q ls H1.n := OwnS.keepX ho ⟨by omega, fun c hc hcl => o3 c hcl⟩ hc2
  repeat' first
    | refine CO.cons rfl ?_
    | refine CO.nil ?_
    | refine CV.seq ?_
    | refine CV.region callees ?_
    | (refine ⟨_, ldCh hg3, ?_⟩)
    | fail
  refine ⟨_, _, stCh hz3 (OwnS.oneC ho), by omega, ?_⟩
  generalize hs4 : Heap.set H3 b1 _ = H4
  have hg4 : H4.get b1 = some (.cells (Chl mk lo hh q) 26 1) := set_get hs4
  have n4 := set_n hs4
  have o4 := set_old hs4
  have ho4 : OwnLk H4 q ls H1.n := OwnS.keepX ho3 ⟨by omega, fun c hc hcl => o4 c hcl⟩ hz3
  repeat' first
    | refine CO.nil ?_
    | refine CV.ret ?_
    | fail
  exact ⟨_, ldCh hg4, rfl, ⟨q, rfl, OwnS.low ho4 (by omega)⟩, keep_put (keep_put ((k0.trans k1).trans k2) (by omega) o3 n3) (by omega) o4 n4⟩
end Go.Proofs.Ytijimplcjaeneaa

