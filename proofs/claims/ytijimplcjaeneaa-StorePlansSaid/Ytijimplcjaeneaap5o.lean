
/- The reference's Plan and Fewest. -/
import Derived.Test.Ytijimplcjaeneaap4o
set_option linter.unusedVariables false
set_option linter.unusedSimpArgs false
namespace Go.Proofs.Ytijimplcjaeneaa
open Go.AI
theorem buX0 {x y : Option Addr} {n m c d : Nat} {K : Int} : abuild Try.prog sT9 [(0, Sev (.slice x n c) (.slice y m d)), (1, VI K)] = some (.agg #[.slice x n c, .slice y m d, VI K, nilS, VI 0]) := by kernel_rfl
theorem buX1 {x y : Option Addr} {n m c d : Nat} {K : Int} : abuild Try.prog sT9 [(0, Sev (.slice x n c) (.slice y m d)), (1, VI K), (3, VI (-1))] = some (.agg #[.slice x n c, .slice y m d, VI K, nilS, VI (-1)]) := by kernel_rfl
theorem buX {H : Heap} {s g : Value} {K : Int} {vs ws : List Value} (hs : Row H s vs) (hg : Row H g ws) : abuild Try.prog sT9 [(0, Sev s g), (1, VI K)] = some (.agg #[s, g, VI K, nilS, VI 0]) ∧ abuild Try.prog sT9 [(0, Sev s g), (1, VI K), (3, VI (-1))] = some (.agg #[s, g, VI K, nilS, VI (-1)]) := by
  obtain ⟨x, n, c, rfl⟩ := row_sl hs
  obtain ⟨y, m, d, rfl⟩ := row_sl hg
  exact ⟨buX0, buX1⟩
theorem boxX {H : Heap} {s g lv : Value} {K m : Int} {e : TypeId} : anew H (Value.cells (.agg #[s, g, VI K, lv, VI m])).toList e 1 = H.new (.cells (Sxl s g K lv m) e 1) := rfl
set_option maxHeartbeats 16000000 in
set_option maxRecDepth 100000 in
theorem planR_spec [Orc] {B : Nat} {H : Heap} {s g : Value} {gv : List Value} {st : List Int} {gs : List (List Int)} (hB : B ≤ H.n) (hs : Ints H s st) (hg : Gri H g gv gs) (hsn : st.length < 1000000) (hgn : gs.length < 1000000) (hgg : ∀ x ∈ gs, x.length < 1000000) :
    CallB Try.prog B 56 [Sev s g] H (fun r H' => (∃ q, r = .tuple #[q, VI (seaE st gs)] ∧ Ints H' q (plaXs st gs)) ∧ Keep H H') := by
  refine CV.enter callees false (Orc.hv rfl rfl) Try.func56 rfl (by kernel_rfl) (Nat.le_of_ble_eq_true rfl) hB ?_ (Orc.hw rfl rfl)
  repeat' first
    | refine CO.cons rfl ?_
    | refine CV.seq ?_
    | refine CV.region callees ?_
    | fail
  refine ⟨(by simp only [notTuple]), ?_⟩
  rw [boxSe]
  generalize hs0 : Heap.new H _ = H0
  have hg0 := new_get hs0
  have k0 := new_keep hs0
  have n0 := new_n hs0
  obtain ⟨b0, hbn0⟩ : ∃ b, Heap.n H = b := ⟨_, rfl⟩
  rw [hbn0] at hg0 n0 ⊢
  have hs0 : Ints H0 s st := hs.keep k0
  have hgr0 := hg.keep k0
  repeat' first
    | refine CO.cons rfl ?_
    | refine CO.nil ?_
    | refine CV.seq ?_
    | refine CV.region callees ?_
    | (refine ⟨_, ldSe hg0, ?_⟩)
    | fail
  refine (checkSeasonR_spec (by omega) hs0 hgr0 hsn hgn hgg).mono ?_
  rintro r H1 ⟨rfl, k1⟩
  have l1 := k1.1
  have k01 := k0.trans k1
  have hS1 := (k1.2 b0 (by omega)).trans hg0
  by_cases he : seaE st gs = 0
  rotate_left
  · have e : plaXs st gs = [] := by unfold plaXs; rw [if_neg he]
    repeat' first
      | refine CO.cons rfl ?_
      | refine CO.nil ?_
      | refine CV.seq ?_
      | refine CV.region callees ?_
      | refine CV.cond ?_
      | refine CV.ret ?_
      | (refine ⟨fun _ => ?_, fun _ => ?_⟩ <;> first | (exfalso; omega) | skip)
      | fail
    exact ⟨rfl, ⟨_, rfl, .inl ⟨rfl, by rw [e]; rfl⟩⟩, k01⟩
  obtain ⟨hok, h9, _⟩ := seaE_ok he
  have hgo := gsOk_of he
  have hc := hok.all
  obtain ⟨K, hK⟩ : ∃ K : Nat, combos st = (K : Int) := ⟨(combos st).toNat, by omega⟩
  have e : plaXs st gs = planA gs K := by unfold plaXs; rw [if_pos he, hK]; rfl
  rw [he, e]
  have hs1 : Ints H1 s st := hs.keep k01
  have hgr1 := hg.keep k01
  repeat' first
    | refine CO.cons rfl ?_
    | refine CO.nil ?_
    | refine CV.seq ?_
    | refine CV.region callees ?_
    | refine CV.cond ?_
    | refine CV.skip ?_
    | refine CV.draw callees (by decide +kernel) ?_
    | refine CH.cons rfl ?_
    | (refine ⟨_, ldSe hS1, ?_⟩)
    | (refine ⟨fun _ => ?_, fun _ => ?_⟩ <;> first | (exfalso; omega) | skip)
    | fail
  refine (combosR_spec (Nat.le_refl _) hs1 hok).mono ?_
  rw [hK]
  rintro r H2 ⟨rfl, k2⟩
  have hbu := (buX hs1 hgr1.row (K := (K : Int))).1
  repeat' first
    | refine CO.cons rfl ?_
    | refine CH.cons rfl ?_
    | refine CH.nil ?_
    | refine ⟨(rfl : plain _ = true), ?_⟩
    | (refine ⟨_, hbu, ?_⟩)
    | fail
  refine ⟨(by simp only [notTuple]), ?_⟩
  rw [boxX]
  generalize hs3 : Heap.new H1 _ = H3
  have hg3 := new_get hs3
  have k3 := new_keep hs3
  have n3 := new_n hs3
  obtain ⟨b3, hbn3⟩ : ∃ b, Heap.n H1 = b := ⟨_, rfl⟩
  rw [hbn3] at hg3 n3 ⊢
  have hg3x := hgr1.keep k3
  have k03 := k01.trans k3
  have l03 := k03.1
  have hl := longest_spec (B := B) (B0 := b3 + 1) (b := b3) (K := K) (m0 := 0) (vs := gv) (by omega) (by omega) hgo (by omega) (by omega) gs.length [] [] nilS nilS H3 (by simp) (fun x hx => by cases hx) repP_nil (by simp) hg3x (.inl ⟨rfl, rfl⟩) hg3 (.inl ⟨rfl, rfl⟩) (by omega) (by omega)
  rw [show ((tak [] : Nat) : Int) = 0 from rfl] at hl
  repeat' first
    | refine CO.cons rfl ?_
    | refine CO.nil ?_
    | refine CV.seq ?_
    | refine CV.region callees ?_
    | refine CH.nil ?_
    | fail
  refine hl.mono ?_
  rintro v H4 ⟨lv, hS4, ho4, kx4⟩
  repeat' first
    | refine CO.cons rfl ?_
    | refine CO.nil ?_
    | refine CV.seq ?_
    | refine CV.region callees ?_
    | refine CV.ret ?_
    | (refine ⟨_, (rfl : nilOk _ = some _), ?_⟩)
    | (refine ⟨_, fS foX2 (by decide), ?_⟩)
    | (refine ⟨_, cell_load agN hS4 rfl, ?_⟩)
    | fail
  exact ⟨by simp only [List.all_cons, List.all_nil, ho4.notTuple]; rfl, ⟨lv, rfl, ho4.row⟩, kx4.keep k03 (by omega)⟩
set_option maxHeartbeats 16000000 in
set_option maxRecDepth 100000 in
theorem fewestR_spec [Orc] {B : Nat} {H : Heap} {s g : Value} {gv : List Value} {st : List Int} {gs : List (List Int)} (hB : B ≤ H.n) (hs : Ints H s st) (hg : Gri H g gv gs) (hsn : st.length < 1000000) (hgn : gs.length < 1000000) (hgg : ∀ x ∈ gs, x.length < 1000000) :
    CallB Try.prog B 58 [Sev s g] H (fun r H' => (∃ q, r = .tuple #[q, VI (fewXs st gs).2, VI (seaE st gs)] ∧ Ints H' q (fewXs st gs).1) ∧ Keep H H') := by
  refine CV.enter callees false (Orc.hv rfl rfl) Try.func58 rfl (by kernel_rfl) (Nat.le_of_ble_eq_true rfl) hB ?_ (Orc.hw rfl rfl)
  repeat' first
    | refine CO.cons rfl ?_
    | refine CV.seq ?_
    | refine CV.region callees ?_
    | fail
  refine ⟨(by simp only [notTuple]), ?_⟩
  rw [boxSe]
  generalize hs0 : Heap.new H _ = H0
  have hg0 := new_get hs0
  have k0 := new_keep hs0
  have n0 := new_n hs0
  obtain ⟨b0, hbn0⟩ : ∃ b, Heap.n H = b := ⟨_, rfl⟩
  rw [hbn0] at hg0 n0 ⊢
  have hs0 : Ints H0 s st := hs.keep k0
  have hgr0 := hg.keep k0
  repeat' first
    | refine CO.cons rfl ?_
    | refine CO.nil ?_
    | refine CV.seq ?_
    | refine CV.region callees ?_
    | (refine ⟨_, ldSe hg0, ?_⟩)
    | fail
  refine (checkSeasonR_spec (by omega) hs0 hgr0 hsn hgn hgg).mono ?_
  rintro r H1 ⟨rfl, k1⟩
  have l1 := k1.1
  have k01 := k0.trans k1
  have hS1 := (k1.2 b0 (by omega)).trans hg0
  by_cases he : seaE st gs = 0
  rotate_left
  · have e : fewXs st gs = ([], 0) := by unfold fewXs; rw [if_neg he]
    rw [e]
    repeat' first
      | refine CO.cons rfl ?_
      | refine CO.nil ?_
      | refine CV.seq ?_
      | refine CV.region callees ?_
      | refine CV.cond ?_
      | refine CV.ret ?_
      | (refine ⟨fun _ => ?_, fun _ => ?_⟩ <;> first | (exfalso; omega) | skip)
      | fail
    exact ⟨rfl, ⟨_, rfl, .inl ⟨rfl, rfl⟩⟩, k01⟩
  obtain ⟨hok, h9, _⟩ := seaE_ok he
  have hgo := gsOk_of he
  have hc := hok.all
  obtain ⟨K, hK⟩ : ∃ K : Nat, combos st = (K : Int) := ⟨(combos st).toNat, by omega⟩
  have e : fewXs st gs = planB gs K := by unfold fewXs; rw [if_pos he, hK]; rfl
  rw [he, e]
  have hs1 : Ints H1 s st := hs.keep k01
  have hgr1 := hg.keep k01
  repeat' first
    | refine CO.cons rfl ?_
    | refine CO.nil ?_
    | refine CV.seq ?_
    | refine CV.region callees ?_
    | refine CV.cond ?_
    | refine CV.skip ?_
    | refine CV.draw callees (by decide +kernel) ?_
    | refine CH.cons rfl ?_
    | (refine ⟨_, ldSe hS1, ?_⟩)
    | (refine ⟨fun _ => ?_, fun _ => ?_⟩ <;> first | (exfalso; omega) | skip)
    | fail
  refine (combosR_spec (Nat.le_refl _) hs1 hok).mono ?_
  rw [hK]
  rintro r H2 ⟨rfl, k2⟩
  have hbu := (buX hs1 hgr1.row (K := (K : Int))).2
  repeat' first
    | refine CO.cons rfl ?_
    | refine CH.cons rfl ?_
    | refine CH.nil ?_
    | refine ⟨(rfl : plain _ = true), ?_⟩
    | (refine ⟨_, hbu, ?_⟩)
    | fail
  refine ⟨(by simp only [notTuple]), ?_⟩
  rw [boxX]
  generalize hs3 : Heap.new H1 _ = H3
  have hg3 := new_get hs3
  have k3 := new_keep hs3
  have n3 := new_n hs3
  obtain ⟨b3, hbn3⟩ : ∃ b, Heap.n H1 = b := ⟨_, rfl⟩
  rw [hbn3] at hg3 n3 ⊢
  have hg3x := hgr1.keep k3
  have k03 := k01.trans k3
  have l03 := k03.1
  have hl := few1_spec (B := B) (B0 := b3 + 1) (b := b3) (K := K) (vs := gv) (by omega) (by omega) hgo (by omega) (by omega) gs.length [] ([], 108) nilS nilS H3 (by simp) (fun x hx => by cases hx) (by simp) hg3x (.inl ⟨rfl, rfl⟩) hg3 (.inl ⟨rfl, rfl⟩) (by omega) (by omega)
  have hB := planB_ok (K := K) hgo (by omega)
  have hmm : mmO (planB gs K).2 = (planB gs K).2 := by unfold mmO; rw [if_neg (by have := hB.lt; omega)]
  rw [show ((tak [] : Nat) : Int) = 0 from rfl, repP_nil, show walkP (grB gs) (nxB gs) K gs.length [] (([] : List Int), (108 : Int)) = planB gs K from rfl, hmm] at hl
  repeat' first
    | refine CO.cons rfl ?_
    | refine CO.nil ?_
    | refine CV.seq ?_
    | refine CV.region callees ?_
    | refine CH.nil ?_
    | fail
  refine hl.mono ?_
  rintro v H4 ⟨lv, hS4, ho4, kx4⟩
  repeat' first
    | refine CO.nil ?_
    | refine CV.seq ?_
    | refine CV.ret ?_
    | refine CV.draw callees (by decide +kernel) ?_
    | refine CH.cons rfl ?_
    | refine CH.nil ?_
    | (refine ⟨_, (rfl : nilOk _ = some _), ?_⟩)
    | (refine ⟨_, fS foX2 (by decide), ?_⟩)
    | (refine ⟨_, cell_load agN hS4 rfl, ?_⟩)
    | (refine ⟨_, fS foX3 (by decide), ?_⟩)
    | fail
  exact ⟨by simp only [List.all_cons, List.all_nil, ho4.notTuple]; rfl, ⟨lv, rfl, ho4.row⟩, kx4.keep k03 (by omega)⟩
end Go.Proofs.Ytijimplcjaeneaa
