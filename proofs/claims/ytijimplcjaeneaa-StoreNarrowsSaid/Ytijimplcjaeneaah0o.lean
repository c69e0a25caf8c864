
/- Chains made of numbers. -/
import Derived.Test.YtijimplcjaeneaaO4
import Derived.Test.YtijimplcjaeneaaO3
set_option linter.unusedVariables false
set_option linter.unusedSimpArgs false
namespace Go.Proofs.Ytijimplcjaeneaa
open Go.AI
theorem zeroLkb : zeroBB Try.prog 28 = some (Lkl ⟨0, 0, 0, 0⟩, 32) := by kernel_rfl
theorem zeroSp : zeroCellsW Try.prog 23 = some [VI 0, VI 0] := by kernel_rfl
theorem alSp {H : Heap} : sAlloc Try.prog H 23 = some (.pointer (some ⟨H.n, 0, none⟩), H.new (.cells [VI 0, VI 0] 23 1), H.n) := alloc_ofW zeroSp
theorem stSp {H : Heap} {b k : Nat} {x y c d : Int} {e : TypeId} (hg : H.get b = some (.cells [VI x, VI y] e (k + 1))) : astore Try.prog 23 H (Spv c d) (.pointer (some ⟨b, 0, none⟩)) = some (H.set b (.cells [VI c, VI d] e (k + 1)), b) := store_allW (vs := [VI c, VI d]) hg rfl szSp rfl
theorem ldSp {H : Heap} {b : Nat} {c d : Int} {e : TypeId} {k : Nat} (hg : H.get b = some (.cells [VI c, VI d] e k)) : aload Try.prog 23 H (.pointer (some ⟨b, 0, none⟩)) = some (Spv c d) := agg_load agSp szSp hg (Nat.le_refl _)
theorem boxSp {H : Heap} {a b : Int} {e : TypeId} : anew H (Value.cells (Spv a b)).toList e 1 = H.new (.cells [VI a, VI b] e 1) := rfl
theorem same_sp {a b : Int} : sameFix (Spv a b) (Spv a b) = true := by simp [sameFix, sameFixL, sameFix1]
theorem buLk {a b c d : Int} : abuild Try.prog 28 [(0, VI a), (1, VI b), (2, Spv c d)] = some (Lkv ⟨a, b, c, d⟩) := by kernel_rfl
theorem lkOne {H : Heap} {x : Lk} : abuildSlice Try.prog H 24 1 [(0, Lkv x)] = some (.slice (some ⟨H.n, 0, none⟩) 1 0, H.new (.cells (Lkl x) 28 2), H.n) :=
  build_oneS (row := Lkl x) unLs zeroLkb (by decide) rfl
abbrev OwnLk (H : Heap) (v : Value) (l : List Lk) (B : Nat) : Prop := OwnS 28 4 H v (l.map Lkl) B
theorem lkPush {K : Value → Heap → Prop} {B B0 : Nat} {H : Heap} {x : Value} {l : List Lk} {d : Lk} (hx : OwnLk H x l B0) (hB0 : B0 ≤ H.n) (hB : B ≤ B0) (hn : l.length < 1000000)
    (hk : ∀ r H', OwnLk H' r (l ++ [d]) B0 → KeepBut x H H' → (∀ c, blkOf r = some c → H.n ≤ c) → K r H') :
    ∃ v H' b, aappend Try.prog (H.new (.cells (Lkl d) 28 2)) #[24, 24] x (.slice (some ⟨H.n, 0, none⟩) 1 0) = some (v, H', b) ∧ B ≤ b ∧ K v H' :=
  append_askS (z := Lkl ⟨0, 0, 0, 0⟩) unLs zeroLkb (by decide) rfl hx hB0 hB (by rw [List.length_map]; exact hn) (fun r H' ho => hk r H' (by rw [OwnLk, List.map_append]; exact ho))
theorem OwnS.oneC {e : TypeId} {s : Nat} {H : Heap} {v : Value} {rs : List (List Value)} {B : Nat} (h : OwnS e s H v rs B) : AI.oneC v = true := by
  rcases h.2 with ⟨rfl, _⟩ | ⟨_, rfl, _⟩ <;> rfl
theorem OwnS.same {e : TypeId} {s : Nat} {H : Heap} {v : Value} {rs : List (List Value)} {B : Nat} (h : OwnS e s H v rs B) : sameFix v v = true := by
  rcases h.2 with ⟨rfl, _⟩ | ⟨b, rfl, _⟩
  · rfl
  · exact same_sl
theorem row_but {H H' : Heap} {x v : Value} {vs : List Value} (h : Row H v vs) (k : KeepBut x H H') (ha : ∀ c, blkOf v = some c → blkOf x ≠ some c) : Row H' v vs := by
  rcases h with h | h | ⟨b, i, c, cs, e, kd, rfl, h2, h3, h4⟩
  · exact .inl h
  · exact .inr (.inl h)
  · exact .inr (.inr ⟨b, i, c, cs, e, kd, rfl, Nat.lt_of_lt_of_le h2 k.le, by rw [k.get b h2 (ha b rfl)]; exact h3, h4⟩)
theorem rowS_but {s : Nat} {H H' : Heap} {x v : Value} {rs : List (List Value)} (h : RowS s H v rs) (k : KeepBut x H H') (ha : ∀ c, blkOf v = some c → blkOf x ≠ some c) : RowS s H' v rs := by
  refine ⟨h.1, ?_⟩
  rcases h.2 with h | h | ⟨b, i, c, cs, e, kd, rfl, h2, h3, h4⟩
  · exact .inl h
  · exact .inr (.inl h)
  · exact .inr (.inr ⟨b, i, c, cs, e, kd, rfl, Nat.lt_of_lt_of_le h2 k.le, by rw [k.get b h2 (ha b rfl)]; exact h3, h4⟩)
set_option maxRecDepth 100000 in
theorem fit_spec [Orc] {B : Nat} {H : Heap} {x n : Int} (hB : B ≤ H.n) (hn : 2 ≤ n) (h0 : 0 ≤ x) (h1 : x < 2 * n) (h9 : n < 100000) :
    CallB Try.prog B 75 [VI x, VI n] H (fun r H' => r = VI (if x < n then x else x - n) ∧ H' = H) := by
  have hm : x.tmod n = if x < n then x else x - n := by
    rw [Int.tmod_eq_emod_of_nonneg h0]
    split
    · exact Int.emod_eq_of_lt h0 (by assumption)
    · rename_i hx
      rw [show x = (x - n) + n by omega, Int.add_emod_right, Int.emod_eq_of_lt (by omega) (by omega)]
      omega
  have hm0 : 0 ≤ x.tmod n := by rw [hm]; split <;> omega
  have hm1 : x.tmod n < n := by rw [hm]; split <;> omega
  rw [← hm]
  refine CV.enter callees false (Orc.hv rfl rfl) Try.func75 rfl (by kernel_rfl) (Nat.le_of_ble_eq_true rfl) hB ?_ (Orc.hw rfl rfl)
  repeat' first
    | refine CO.cons rfl ?_
    | refine CO.nil ?_
    | refine CV.seq ?_
    | refine CV.region callees ?_
    | refine CV.cond ?_
    | refine CV.skip ?_
    | refine CV.ret ?_
    | (refine ⟨_, fun tm ha => step1_rem rfl (ev_tmp ha rfl) (ev_tmp ha rfl) (by omega), ?_⟩)
    | (refine ⟨fun _ => ?_, fun _ => ?_⟩ <;> first | (exfalso; omega) | skip)
    | fail
  exact ⟨rfl, rfl, rfl⟩
set_option maxRecDepth 100000 in
theorem in_spec [Orc] {B b : Nat} {H : Heap} {p q : Int} (hB : B ≤ b) (hn : B ≤ H.n) (hb : Box b H) (h0 : 0 ≤ p) (h1 : p ≤ q) (h2 : q < 1000000) :
    CallB Try.prog B 118 [bp b, Spv p q] H (fun r H' => (∃ x, r = VI x ∧ p ≤ x ∧ x ≤ q) ∧ Box b H' ∧ KeepX b H H') := by
  have hbn := hb.1
  refine CV.enter callees false (Orc.hv rfl rfl) Try.func118 rfl (by kernel_rfl) (Nat.le_of_ble_eq_true rfl) hn ?_ (Orc.hw rfl rfl)
  repeat' first
    | refine CO.cons rfl ?_
    | refine CV.seq ?_
    | refine CV.region callees ?_
    | fail
  refine ⟨(by simp only [notTuple]), ?_⟩
  rw [boxSp]
  generalize hs0 : Heap.new H _ = H0
  have hg0 := new_get hs0
  have k0 := new_keep hs0
  have n0 := new_n hs0
  obtain ⟨b0, hbn0⟩ : ∃ b, Heap.n H = b := ⟨_, rfl⟩
  rw [hbn0] at hg0 n0 ⊢
  have hb0 := hb.keep k0
  repeat' first
    | refine CO.cons rfl ?_
    | refine CO.nil ?_
    | refine CV.seq ?_
    | refine CV.region callees ?_
    | fail
  refine (up_spec hB (by omega) hb0 (by omega)).mono ?_
  rintro r H2 ⟨⟨w, rfl, w1, w2⟩, hb2, k2⟩
  have l2 := k2.1
  have hg2 := (k2.2 b0 (by omega) (by omega)).trans hg0
  have x2 : KeepX b H H2 := (k0.butX b).trans k2
  repeat' first
    | refine CO.cons rfl ?_
    | refine CO.nil ?_
    | refine CV.seq ?_
    | refine CV.region callees ?_
    | refine CV.cond ?_
    | refine CV.block ?_
    | refine CV.skip ?_
    | refine CV.ret ?_
    | (refine ⟨_, fS foS0 (by decide), ?_⟩)
    | (refine ⟨_, fS foS1 (by decide), ?_⟩)
    | (refine ⟨_, cell_load ag3 hg2 rfl, ?_⟩)
    | (refine ⟨fun _ => ?_, fun _ => ?_⟩ <;> first | (exfalso; omega) | skip)
    | fail
  · exact ⟨rfl, ⟨_, rfl, by omega, by omega⟩, hb2, x2⟩
  · exact ⟨rfl, ⟨_, rfl, by omega, by omega⟩, hb2, x2⟩
  · refine (any_spec hB (by omega) hb2 (by omega) h1 (by omega)).mono ?_
    rintro r H3 ⟨⟨m, rfl, m1, m2⟩, hb3, k3⟩
    repeat' first
      | refine CO.cons rfl ?_
      | refine CO.nil ?_
      | refine CV.ret ?_
      | fail
    exact ⟨rfl, ⟨_, rfl, by omega, by omega⟩, hb3, x2.trans k3⟩
set_option maxHeartbeats 4000000 in
set_option maxRecDepth 100000 in
theorem part_spec [Orc] {B b : Nat} {H : Heap} {p q : Int} (hB : B ≤ b) (hn : B ≤ H.n) (hb : Box b H) (h0 : 0 ≤ p) (h1 : p ≤ q) (h2 : q < 1000000) :
    CallB Try.prog B 65 [bp b, Spv p q] H (fun r H' => (∃ x y : Int, r = Spv x y ∧ p ≤ x ∧ x ≤ y ∧ y ≤ q) ∧ Box b H' ∧ KeepX b H H') := by
  have hbn := hb.1
  refine CV.enter callees false (Orc.hv rfl rfl) Try.func65 rfl (by kernel_rfl) (Nat.le_of_ble_eq_true rfl) hn ?_ (Orc.hw rfl rfl)
  repeat' first
    | refine CO.cons rfl ?_
    | refine CV.seq ?_
    | refine CV.region callees ?_
    | fail
  refine ⟨(by simp only [notTuple]), ?_⟩
  rw [boxSp]
  generalize hs0 : Heap.new H _ = H0
  have hg0 := new_get hs0
  have k0 := new_keep hs0
  have n0 := new_n hs0
  obtain ⟨b0, hbn0⟩ : ∃ b, Heap.n H = b := ⟨_, rfl⟩
  rw [hbn0] at hg0 n0 ⊢
  repeat' first
    | refine CO.cons rfl ?_
    | refine CO.nil ?_
    | refine CV.seq ?_
    | (refine ⟨_, _, alSp, ?_⟩)
    | fail
  generalize hs1 : Heap.new H0 _ = H1
  have hg1 := new_get hs1
  have k1 := new_keep hs1
  have n1 := new_n hs1
  obtain ⟨b1, hbn1⟩ : ∃ b, Heap.n H0 = b := ⟨_, rfl⟩
  rw [hbn1] at hg1 n1 ⊢
  have hg01 := (k1.2 b0 (by omega)).trans hg0
  have hb1 := (hb.keep k0).keep k1
  repeat' first
    | fail
  refine CV.wideR callees (by decide +kernel) [(0, []), (1, []), (3, []), (4, []), (2, [4]), (5, []), (6, []), (7, [])] (by kernel_rfl) ?_
  repeat' first
    | refine CR.cons ?_
    | (refine ⟨_, ldSp hg01, ?_⟩)
    | fail
  refine (in_spec (p := p) hB (by omega) hb1 h0 h1 h2).mono ?_
  rintro r H2 ⟨⟨x, rfl, x1, x2⟩, hb2, k2⟩
  have l2 := k2.1
  have hg02 := (k2.2 b0 (by omega) (by omega)).trans hg01
  have hg12 := (k2.2 b1 (by omega) (by omega)).trans hg1
  repeat' first
    | refine CR.cons ?_
    | (refine ⟨_, ldSp hg02, ?_⟩)
    | (refine ⟨(rfl : _ = Spv p q), ?_⟩)
    | (refine ⟨same_sp, ?_⟩)
    | fail
  refine (in_spec (p := p) hB (by omega) hb2 h0 h1 h2).mono ?_
  rintro r H3 ⟨⟨y, rfl, y1, y2⟩, hb3, k3⟩
  have l3 := k3.1
  have hg13 := (k3.2 b1 (by omega) (by omega)).trans hg12
  have hbn3 := hb3.1
  repeat' first
    | refine CO.cons rfl ?_
    | refine CV.seq ?_
    | refine CV.region callees ?_
    | refine CR.cons ?_
    | refine CR.nil ?_
    | refine ⟨_, fun tm ha => step1_max rfl (ev_tmp ha rfl) (ev_tmp ha rfl), ?_⟩
    | refine ⟨_, fun tm ha => step1_min rfl (ev_tmp ha rfl) (ev_tmp ha rfl), ?_⟩
    | (refine ⟨_, buSp, ?_⟩)
    | fail
  refine ⟨_, _, stSp hg13, by omega, ?_⟩
  generalize hs5 : Heap.set H3 b1 _ = H5
  have hg5 : H5.get b1 = some (.cells ([VI (min x y), VI (max x y)]) 23 1) := set_get hs5
  have n5 := set_n hs5
  have o5 := set_old hs5
  repeat' first
    | refine CO.nil ?_
    | refine CV.ret ?_
    | fail
  have k05 : KeepX b H H3 := (((k0.butX b).trans (k1.butX b)).trans k2).trans k3
  exact ⟨_, ldSp hg5, rfl, ⟨min x y, max x y, rfl, by omega, by omega, by omega⟩, hb3.put (by omega) o5 n5, KeepX.put k05 (by omega) o5 n5⟩
end Go.Proofs.Ytijimplcjaeneaa
