
/- Seasons made of numbers. -/
import Derived.Test.Ytjjmnfgnlcbfhaaf5o
import Derived.Test.YtjjmnfgnlcbfhaaW7o
set_option linter.unusedVariables false
set_option linter.unusedSimpArgs false
namespace Go.AI
section
variable {P : Program} {H : Heap} {t e : TypeId} {z : Value} {by' : Nat}
theorem append_nilW (ht : P.underlying t = some (.slice e)) (h1 : oneBB P e = some (z, by')) (hb : by' ≤ 1000) {b' : Nat} {news : List Value} {e' : TypeId} {k : Nat} (hy : H.get b' = some (.cells news e' k)) (hn0 : 0 < news.length) (hn : news.length ≤ 1000000) :
    aappend P H #[t, t] (.slice none 0 0) (.slice (some ⟨b', 0, none⟩) news.length 0) = some (.slice (some ⟨H.n, 0, none⟩) news.length 0, H.new (.cells news e 2), H.n) := by
  obtain ⟨info, hi, hz, hs, hc, hsc, hby⟩ := oneBB_spec h1
  have hmul : news.length * info.bytes ≤ 1000000 * 1000 := Nat.mul_le_mul hn (by omega)
  simp only [aappend, ht, hi, hz, hc, hs, sourceOf, hy]
  have hl : ¬ news.length = 0 := by omega
  rw [if_neg (by simp), if_neg (by simp), if_pos (by simp)]
  simp only [hl, if_false, Nat.mul_one, List.drop_zero, List.take_length, Nat.zero_add]
  rw [if_pos ⟨by show news.length ≤ 9223372036854775807; omega, by omega⟩]
  rfl
theorem append_rowW (ht : P.underlying t = some (.slice e)) (h1 : oneBB P e = some (z, by')) (hb : by' ≤ 1000) {b b' : Nat} {cs news : List Value} {e' : TypeId} {k : Nat} (hx : H.get b = some (.cells cs e 2)) (hy : H.get b' = some (.cells news e' k)) (hn0 : 0 < news.length) (hn : cs.length + news.length ≤ 1000000) :
    aappend P H #[t, t] (.slice (some ⟨b, 0, none⟩) cs.length 0) (.slice (some ⟨b', 0, none⟩) news.length 0) = some (.slice (some ⟨H.n, 0, none⟩) (cs.length + news.length) 0, (H.set b .gone).new (.cells (cs ++ news) e 2), b) := by
  obtain ⟨info, hi, hz, hs, hc, hsc, hby⟩ := oneBB_spec h1
  have hmul : (cs.length + news.length) * info.bytes ≤ 1000000 * 1000 := Nat.mul_le_mul hn (by omega)
  simp only [aappend, ht, hi, hz, hc, hs, sourceOf, hy, hx]
  have hl : ¬ news.length = 0 := by omega
  rw [if_neg (by simp), if_neg (by simp), if_pos (by simp)]
  simp only [hl, if_false, Nat.mul_one, List.drop_zero, List.take_length, Nat.zero_add]
  rw [if_neg (by simp), if_pos ⟨trivial, trivial, by show cs.length + news.length ≤ 9223372036854775807; omega, by omega⟩]
  rfl
theorem append_askW {K : Value → Heap → Prop} {B B0 : Nat} {x w : Value} {vs : List Value} (ht : P.underlying t = some (.slice e)) (h1 : oneBB P e = some (z, by')) (hb : by' ≤ 1000) (hx : Own e H x vs B0) (hB0 : B0 ≤ H.n) (hB : B ≤ B0) (hn : vs.length < 1000000)
    (hk : ∀ r H', Own e H' r (vs ++ [w]) B0 → KeepBut x H H' → (∀ c, blkOf r = some c → H.n ≤ c) → K r H') :
    ∃ v H' b, aappend P (H.new (.cells [w] e 2)) #[t, t] x (.slice (some ⟨H.n, 0, none⟩) 1 0) = some (v, H', b) ∧ B ≤ b ∧ K v H' := by
  have hy : (H.new (.cells [w] e 2)).get H.n = some (.cells [w] e 2) := Heap.get_new_eq _ _
  rcases hx with ⟨rfl, rfl⟩ | ⟨b, rfl, h2, h3, h4⟩
  · refine ⟨_, _, _, append_nilW ht h1 hb (news := [w]) hy (by simp) (by simp), ?_, hk _ _ (.inr ⟨_, rfl, ?_, ?_, Heap.get_new_eq _ _⟩) ⟨?_, ?_⟩ ?_⟩
    · show B ≤ H.n + 1; omega
    · show B0 ≤ H.n + 1; omega
    · show H.n + 1 < H.n + 1 + 1; omega
    · show H.n ≤ H.n + 1 + 1; omega
    · intro c hc _
      rw [Heap.get_new_ne _ _ (by show c ≠ H.n + 1; omega), Heap.get_new_ne _ _ (by omega)]
    · intro c hc; cases hc; show H.n ≤ H.n + 1; omega
  · have hx' : (H.new (.cells [w] e 2)).get b = some (.cells vs e 2) := by rw [Heap.get_new_ne _ _ (by omega)]; exact h4
    refine ⟨_, _, _, append_rowW ht h1 hb (news := [w]) hx' hy (by simp) (by simp; omega), Nat.le_trans hB h2, hk _ _ (.inr ⟨_, ?_, ?_, ?_, Heap.get_new_eq _ _⟩) ⟨?_, ?_⟩ ?_⟩
    · simp
    · show B0 ≤ H.n + 1; omega
    · show H.n + 1 < H.n + 1 + 1; omega
    · show H.n ≤ H.n + 1 + 1; omega
    · intro c hc hne
      have hne' : b ≠ c := fun h => hne (by rw [h]; rfl)
      rw [Heap.get_new_ne _ _ (by show c ≠ H.n + 1; omega), Heap.get_set_ne _ _ hne', Heap.get_new_ne _ _ (by omega)]
    · intro c hc; cases hc; show H.n ≤ H.n + 1; omega
end
end Go.AI
namespace Go.Proofs.Ytjjmnfgnlcbfhaa
open Go.AI
/-- A row that is the beginning of one of one's own. -/
def Sub (H : Heap) (v : Value) (l : List Int) (n : Nat) : Prop := ∃ c xs, v = .slice (some ⟨c, 0, none⟩) l.length 0 ∧ n ≤ c ∧ c < H.n ∧ H.get c = some (.cells (List.map VI xs) 3 2) ∧ l = xs.take l.length ∧ l.length ≤ xs.length
theorem Sub.ints {H : Heap} {v : Value} {l : List Int} {n : Nat} (h : Sub H v l n) : Ints H v l := by
  obtain ⟨c, xs, rfl, h1, h2, h3, h4, h5⟩ := h
  refine .inr (.inr ⟨c, 0, 0, _, 3, 2, by rw [List.length_map], h2, h3, by decide, by rw [List.length_map, List.length_map]; omega, fun j w hj => ?_⟩)
  rw [Nat.zero_add]
  rw [h4, List.map_take, List.getElem?_take] at hj
  split at hj
  · exact hj
  · cases hj
theorem Sub.old {H H' : Heap} {v : Value} {l : List Int} {n : Nat} (h : Sub H v l n) (hn : H.n ≤ H'.n) (hg : ∀ c, blkOf v = some c → H'.get c = H.get c) : Sub H' v l n := by
  obtain ⟨c, xs, rfl, h1, h2, h3, h4, h5⟩ := h
  exact ⟨c, xs, rfl, h1, by omega, by rw [hg c rfl]; exact h3, h4, h5⟩
theorem Sub.blk {H : Heap} {v : Value} {l : List Int} {n : Nat} (h : Sub H v l n) : ∀ c, blkOf v = some c → n ≤ c ∧ c < H.n := by
  obtain ⟨c, xs, rfl, h1, h2, _⟩ := h
  intro c' hc
  cases hc
  exact ⟨h1, h2⟩
structure GuO (l : List Int) : Prop where
  p : 0 < l.length
  m : l.length ≤ 3
  nd : l.Nodup
  r : ∀ x ∈ l, 0 ≤ x ∧ x ≤ 5
theorem GuO.take {xs : List Int} {k : Nat} (h : OrderL xs) (h6 : xs.length ≤ 6) (h0 : 0 < k) (h3 : k ≤ 3) (hk : k ≤ xs.length) : GuO (xs.take k) := by
  refine ⟨by rw [List.length_take]; omega, by rw [List.length_take]; omega, ?_, fun x hx => ?_⟩
  · refine List.Nodup.sublist (List.take_sublist _ _) ?_
    rw [List.nodup_iff_pairwise_ne, List.pairwise_iff_getElem]
    intro i j hi hj hij e
    have := h.1 i j hi hj (by rw [getElem!_pos xs i hi, getElem!_pos xs j hj]; exact e)
    omega
  · obtain ⟨i, hi, rfl⟩ := List.getElem_of_mem (List.mem_of_mem_take hx)
    have := h.2 i hi
    rw [getElem!_pos xs i hi] at this
    omega
/-- A season of one's own, that is valid. -/
structure SeaO (H : Heap) (s g : Value) (gv : List Value) (st : List Int) (gs : List (List Int)) (n : Nat) : Prop where
  s : Own 3 H s (st.map VI) n
  g : Own 29 H g gv n
  len : gv.length = gs.length
  i : ∀ i, i < gs.length → Sub H gv[i]! gs[i]! n
  so : SoOk st
  go : ∀ i, i < gs.length → GuO gs[i]!
theorem SeaO.gri {H : Heap} {s g : Value} {gv : List Value} {st : List Int} {gs : List (List Int)} {n : Nat} (h : SeaO H s g gv st gs n) : Gri H g gv gs := ⟨h.g.row, h.len, fun i hi => (h.i i hi).ints⟩
theorem guE_of : ∀ {l pre : List Int}, (pre ++ l).Nodup → (∀ x ∈ l, 0 ≤ x ∧ x ≤ 11) → guE pre l = 0
  | [], _, _, _ => rfl
  | g :: t, pre, hp, hr => by
    have h1 := hr g (by simp)
    have hm : g ∉ pre := fun h => (List.nodup_append.1 hp).2.2 g h g (by simp) rfl
    simp only [guE]
    rw [show inB g 0 11 = true by simp [inB]; omega, cond_true, if_neg hm]
    exact guE_of (by rw [List.append_assoc]; exact hp) fun x hx => hr x (by simp [hx])
theorem soE_of : ∀ {l : List Int}, (∀ x ∈ l, 1 ≤ x ∧ x ≤ 6) → soE l = 0
  | [], _ => rfl
  | s :: t, h => by
    have h1 := h s (by simp)
    simp only [soE]
    rw [show inB s 1 6 = true by simp [inB]; omega, cond_true]
    exact soE_of fun x hx => h x (by simp [hx])
theorem gsE_of : ∀ {gs : List (List Int)}, (∀ l ∈ gs, guestsE l = 0) → gsE gs = 0
  | [], _ => rfl
  | g :: t, h => by
    simp only [gsE]
    rw [if_pos (h g (by simp))]
    exact gsE_of fun x hx => h x (by simp [hx])
theorem SeaO.ok {H : Heap} {s g : Value} {gv : List Value} {st : List Int} {gs : List (List Int)} {n : Nat} (h : SeaO H s g gv st gs n) (h9 : gs.length ≤ 9) : seaE st gs = 0 := by
  have h4 := h.so.n
  have h0 := h.so.p
  unfold seaE
  rw [if_neg (by omega), if_neg (by omega), if_pos (soE_of h.so.m), if_neg (by omega)]
  refine gsE_of fun l hl => ?_
  obtain ⟨i, hi, rfl⟩ := List.getElem_of_mem hl
  have hg := h.go i hi
  rw [getElem!_pos gs i hi] at hg
  have hp := hg.p
  unfold guestsE
  rw [if_neg (by omega)]
  exact guE_of (by rw [List.nil_append]; exact hg.nd) fun x hx => by have := hg.r x hx; omega
theorem zeroSe : zeroCellsW Try.prog 68 = some [nilS, nilS] := by kernel_rfl
theorem alSe {H : Heap} : sAlloc Try.prog H 68 = some (.pointer (some ⟨H.n, 0, none⟩), H.new (.cells [nilS, nilS] 68 1), H.n) := alloc_ofW zeroSe
theorem stSe {H : Heap} {b : Nat} {s g s' g' : Value} {e : TypeId} (hs : oneC s = true) (hg : oneC g = true) (hb : H.get b = some (.cells [s', g'] e 1)) : astore Try.prog 68 H (Sev s g) (.pointer (some ⟨b, 0, none⟩)) = some (H.set b (.cells [s, g] e 1), b) := store_allW (vs := [s, g]) hb rfl szSe (by
  have : [s, g].all oneC = (oneC s && (oneC g && true)) := rfl
  rw [this, hs, hg]; rfl)
theorem oneN : oneBB Try.prog 29 = some (.slice none 0 0, 24) := by kernel_rfl
set_option maxHeartbeats 16000000 in
set_option maxRecDepth 100000 in
theorem seasonOf_spec [Orc] {B b most : Nat} {H : Heap} (hB : B ≤ b) (hn : B ≤ H.n) (hb : Box b H) (hm : most ≤ 9) :
    CallB Try.prog B 44 [bp b, VI most] H (fun r H' => (∃ s g gv st gs, r = Sev s g ∧ SeaO H' s g gv st gs H.n ∧ gs.length ≤ most ∧ (∀ x ∈ st, x ≤ 3) ∧ st.length ≤ 3) ∧ Box b H' ∧ KeepX b H H') := by
  have hbn := hb.1
  refine CV.enter callees false (Orc.hv rfl rfl) Try.func44 rfl (by kernel_rfl) (Nat.le_of_ble_eq_true rfl) hn ?_ (Orc.hw rfl rfl)
  repeat' first
    | refine CO.cons rfl ?_
    | refine CO.nil ?_
    | refine CV.seq ?_
    | refine CV.region callees ?_
    | (refine ⟨_, _, alSe, ?_⟩)
    | fail
  generalize hs0 : Heap.new H _ = H0
  have hg0 := new_get hs0
  have k0 := new_keep hs0
  have n0 := new_n hs0
  obtain ⟨b0, hbn0⟩ : ∃ b, Heap.n H = b := ⟨_, rfl⟩
  rw [hbn0] at hg0 n0 ⊢
  repeat' first
    | fail
  generalize hs1 : Heap.new H0 _ = H1
  have hg1 := new_get hs1
  have k1 := new_keep hs1
  have n1 := new_n hs1
  obtain ⟨b1, hbn1⟩ : ∃ b, Heap.n H0 = b := ⟨_, rfl⟩
  rw [hbn1] at hg1 n1 ⊢
  have k01 := k0.trans k1
  have hz1 := (k1.2 b0 (by omega)).trans hg0
  have hb1 := hb.keep k01
  repeat' first
    | fail
  refine (any_spec hB (by omega) hb1 (by omega) (by omega) (by omega)).mono ?_
  rintro r H2 ⟨⟨m, rfl, m1, m2⟩, hb2, k2⟩
  have l2 := k2.1
  have hg2 := (k2.2 b1 (by omega) (by omega)).trans hg1
  have hz2 := (k2.2 b0 (by omega) (by omega)).trans hz1
  have x2 : KeepX b H H2 := (k01.butX b).trans k2
  repeat' first
    | refine CO.cons rfl ?_
    | refine CO.nil ?_
    | refine CV.block ?_
    | fail
  refine CV.loopc ?_
  refine WCv.rounds callees false (α := Value × List Int × Int) (fun (q, st, k) => [(0, bp b), (1, VI most), (4, .pointer (some ⟨b0, 0, none⟩)), (5, .pointer (some ⟨b1, 0, none⟩)), (6, VI k)]) (fun (q, st, k) Hz => (st.length : Int) + k = m ∧ 0 ≤ k ∧ Hz.get b1 = some (.cells [q, nilS] 68 1) ∧ Hz.get b0 = some (.cells [nilS, nilS] 68 1) ∧ Own 3 Hz q (st.map VI) H2.n ∧ (∀ x ∈ st, 1 ≤ x ∧ x ≤ 3) ∧ Box b Hz ∧ KeepX b H Hz ∧ H2.n ≤ Hz.n) (fun (q, st, k) => k.toNat) (nilS, [], m) (by repeat' first | exact trivial | refine ⟨rfl, ?_⟩ | refine ⟨slot_int (by (try simp only [Int.toNat_natCast]); omega), ?_⟩) ?_ ?_
  · exact ⟨by simp, by omega, hg2, hz2, .inl ⟨rfl, rfl⟩, fun i hi => by simp at hi, hb2, x2, Nat.le_refl _⟩
  rintro ⟨q, st, k⟩ Hx ⟨hcl, hk0, hgx, hzx, hq, hst, hbx, xx, lx⟩ hBx
  have hqa : ∀ c, blkOf q = some c → H2.n ≤ c := fun c hc => (hq.lt hc).1
  by_cases hp : 0 < k
  · repeat' first
      | refine CO.cons rfl ?_
      | refine CO.nil ?_
      | refine CV.seq ?_
      | refine CV.region callees ?_
      | refine CV.cond ?_
      | refine CV.block ?_
      | refine CV.skip ?_
      | refine CR.cons ?_
      | refine CV.wideR callees (by decide +kernel) [(0, []), (1, []), (2, []), (3, []), (4, [1]), (5, [1]), (6, [1]), (7, [1]), (8, []), (9, []), (10, [])] (by kernel_rfl) ?_
      | (refine ⟨_, fS fe0 (by decide), ?_⟩)
      | (refine ⟨_, cell_load agN hgx rfl, ?_⟩)
      | (refine ⟨fun _ => ?_, fun _ => ?_⟩ <;> first | (exfalso; omega) | skip)
      | fail
    refine (any_spec hB (by omega) hbx (by omega) (by omega) (by omega)).mono ?_
    rintro r H3 ⟨⟨y, rfl, y1, y2⟩, hb3, k3⟩
    have l3 := k3.1
    have hg3 := (k3.2 b1 (by omega) (by omega)).trans hgx
    have hz3 := (k3.2 b0 (by omega) (by omega)).trans hzx
    have hq3 := own_box hq k3 hbx
    repeat' first
      | refine CR.cons ?_
      | (refine ⟨_, cell_load agN hg3 rfl, ?_⟩)
      | (refine ⟨(rfl : _ = q), ?_⟩)
      | (refine ⟨hq3.same, ?_⟩)
      | (refine ⟨_, _, build_vals [VI 1, VI 1, VI 2, VI y] un22 one3 rfl (Nat.le_of_ble_eq_true rfl), ?_⟩)
      | fail
    generalize hs4 : Heap.new H3 _ = H4
    have hw4 : Ints H4 (.slice (some ⟨H3.n, 0, none⟩) 4 0) [1, 1, 2, y] := by rw [← hs4]; exact new_row rfl
    have k4 := new_keep hs4
    have l4 := k4.1
    have hb4 := hb3.keep k4
    have hg4 := (k4.2 b1 (by omega)).trans hg3
    have hz4 := (k4.2 b0 (by omega)).trans hz3
    have hq4 := hq3.keep k4
    repeat' first
      | fail
    refine (pick_spec hB (by omega) hb4 hw4 (Nat.le_of_ble_eq_true rfl) (Nat.le_of_ble_eq_true rfl)).mono ?_
    rintro r H5 ⟨⟨j, hj, rfl⟩, hb5, k5⟩
    have hz' : 1 ≤ ([1, 1, 2, y] : List Int)[j]! ∧ ([1, 1, 2, y] : List Int)[j]! ≤ 3 := by
      have hj4 : j < 4 := hj
      rcases (by omega : j = 0 ∨ j = 1 ∨ j = 2 ∨ j = 3) with rfl | rfl | rfl | rfl
      · show (1 : Int) ≤ 1 ∧ (1 : Int) ≤ 3; omega
      · show (1 : Int) ≤ 1 ∧ (1 : Int) ≤ 3; omega
      · show (1 : Int) ≤ 2 ∧ (2 : Int) ≤ 3; omega
      · show 1 ≤ y ∧ y ≤ 3; omega
    generalize ([1, 1, 2, y] : List Int)[j]! = z at hz'
    have l5 := k5.1
    have hg5 := (k5.2 b1 (by omega) (by omega)).trans hg4
    have hz5 := (k5.2 b0 (by omega) (by omega)).trans hz4
    have hq5 := own_box hq4 k5 hb4
    have x5 : KeepX b H H5 := ((xx.trans k3).trans (k4.butX b)).trans k5
    repeat' first
      | refine CR.cons ?_
      | (refine ⟨_, cell_load agN hg5 rfl, ?_⟩)
      | (refine ⟨(rfl : _ = q), ?_⟩)
      | (refine ⟨hq5.same, ?_⟩)
      | (refine ⟨_, _, build_one un22 one3 rfl, ?_⟩)
      | fail
    refine push_ask (y := z) hq5 (by omega) (by omega) (by omega) ?_
    intro q9 H9 hq9 kb9 hf9
    have l9 := kb9.le
    have hg9 := (kb9.get b1 (by omega) (fun h => by have := hqa _ h; omega)).trans hg5
    have hz9 := (kb9.get b0 (by omega) (fun h => by have := hqa _ h; omega)).trans hz5
    have hb9 := hb5.keepBut kb9 (fun h => by have := hqa _ h; omega)
    have x9 := kb9.keepX x5 fun c hc => by have := hqa _ hc; omega
    repeat' first
      | refine CR.cons ?_
      | (refine ⟨_, fS fe0 (by decide), ?_⟩)
      | fail
    refine ⟨_, _, store_row (i := 0) szN hg9 (by show 0 < 2; decide) (Row.oneC hq9.row).1, by omega, ?_⟩
    generalize hsA : Heap.set H9 b1 _ = HA
    have hgA : HA.get b1 = some (.cells [q9, nilS] 68 1) := set_get hsA
    have nA := set_n hsA
    have oA := set_old hsA
    have kA : KeepX b1 H9 HA := ⟨by omega, fun c hc hcl => oA c hcl⟩
    repeat' first
      | refine CO.cons rfl ?_
      | refine CO.nil ?_
      | refine CV.region callees ?_
      | refine CR.nil ?_
      | refine ⟨(⟨by omega, by omega⟩ : inI64 _), ?_⟩
      | fail
    refine ⟨(q9, st ++ [z], k - 1), (by repeat' first | exact trivial | refine ⟨rfl, ?_⟩ | refine ⟨slot_int (by (try simp only [Int.toNat_natCast]); omega), ?_⟩), (by (try dsimp only); omega), ?_⟩
    refine ⟨by simp; omega, by omega, hgA, (oA b0 (by omega)).trans hz9, Own.keepX hq9 kA hg9, fun x hx => ?_, hb9.put (by omega) oA nA, KeepX.put x9 (by omega) oA nA, by omega⟩
    rcases List.mem_append.1 hx with h | h
    · exact hst x h
    · rw [List.mem_singleton] at h; omega
  obtain rfl : k = 0 := by omega
  repeat' first
    | refine CO.cons rfl ?_
    | refine CO.nil ?_
    | refine CV.seq ?_
    | refine CV.region callees ?_
    | refine CV.cond ?_
    | refine CV.exit ?_
    | (refine ⟨fun _ => ?_, fun _ => ?_⟩ <;> first | (exfalso; omega) | skip)
    | fail
  refine (any_spec hB (by omega) hbx (by omega) (by omega) (by omega)).mono ?_
  rintro r H3 ⟨⟨gn, rfl, gn1, gn2⟩, hb3, k3⟩
  have l3 := k3.1
  have hg3 := (k3.2 b1 (by omega) (by omega)).trans hgx
  have hz3 := (k3.2 b0 (by omega) (by omega)).trans hzx
  have hq3 := own_box hq k3 hbx
  repeat' first
    | refine CO.cons rfl ?_
    | refine CO.nil ?_
    | refine CV.seq ?_
    | refine CV.region callees ?_
    | refine ⟨(⟨by omega, by omega⟩ : inI64 _), ?_⟩
    | fail
  refine (up_spec hB (by omega) hb3 (by omega)).mono ?_
  rintro r H4 ⟨⟨t, rfl, t1, t2⟩, hb4, k4⟩
  have l4 := k4.1
  have hg4 := (k4.2 b1 (by omega) (by omega)).trans hg3
  have hz4 := (k4.2 b0 (by omega) (by omega)).trans hz3
  have hq4 := own_box hq3 k4 hb3
  have x4 := (xx.trans k3).trans k4
  obtain ⟨gn, rfl⟩ : ∃ n : Nat, gn = (n : Int) := ⟨gn.toNat, by omega⟩
  have hqc : ∀ c, blkOf q = some c → H2.n ≤ c ∧ c < H4.n := fun c hc => ⟨(hq4.lt hc).1, (hq4.lt hc).2⟩
  clear hgx hzx hq hg3 hz3 hq3 hb3
  repeat' first
    | refine CO.cons rfl ?_
    | refine CO.nil ?_
    | refine CV.block ?_
    | fail
  refine CV.loopc ?_
  refine WCv.rounds callees false (α := Value × List Value × List (List Int) × Int) (fun (gq, gv, gs, k) => [(0, bp b), (4, .pointer (some ⟨b0, 0, none⟩)), (5, .pointer (some ⟨b1, 0, none⟩)), (7, VI gn), (8, VI k)]) (fun (gq, gv, gs, k) Hz => (gs.length : Int) + k = t ∧ 0 ≤ k ∧ Hz.get b1 = some (.cells [q, gq] 68 1) ∧ Hz.get b0 = some (.cells [nilS, nilS] 68 1) ∧ Own 3 Hz q (st.map VI) H2.n ∧ Own 29 Hz gq gv H4.n ∧ gv.length = gs.length ∧ (∀ i, i < gs.length → Sub Hz gv[i]! gs[i]! H4.n ∧ (∀ c, blkOf gv[i]! = some c → blkOf gq ≠ some c)) ∧ (∀ i, i < gs.length → GuO gs[i]!) ∧ Box b Hz ∧ KeepX b H Hz ∧ H4.n ≤ Hz.n) (fun (gq, gv, gs, k) => k.toNat) (nilS, [], [], t) (by repeat' first | exact trivial | refine ⟨rfl, ?_⟩ | refine ⟨slot_int (by (try simp only [Int.toNat_natCast]); omega), ?_⟩) ?_ ?_
  · exact ⟨by simp, by omega, hg4, hz4, hq4, .inl ⟨rfl, rfl⟩, rfl, fun i hi => by simp at hi, fun i hi => by simp at hi, hb4, x4, Nat.le_refl _⟩
  rintro ⟨gq, gv, gs, k⟩ Hy ⟨htl, hk0, hgy, hzy, hqy, hty, hgl, hsub, hgo, hby, xy, ly⟩ hBy
  have hta : ∀ c, blkOf gq = some c → H4.n ≤ c := fun c hc => (hty.lt hc).1
  have htb : ∀ c, blkOf gq = some c → c < Hy.n := fun c hc => (hty.lt hc).2
  by_cases hp : 0 < k
  · repeat' first
      | refine CO.cons rfl ?_
      | refine CO.nil ?_
      | refine CV.seq ?_
      | refine CV.region callees ?_
      | refine CV.cond ?_
      | refine CV.block ?_
      | refine CV.skip ?_
      | (refine ⟨fun _ => ?_, fun _ => ?_⟩ <;> first | (exfalso; omega) | skip)
      | fail
    refine (order_spec hB (by omega) hby (by omega)).mono ?_
    rintro ol H5 ⟨⟨xs, ho, hol, hoo⟩, hb5, k5⟩
    have l5 := k5.1
    have hg5 := (k5.2 b1 (by omega) (by omega)).trans hgy
    have hz5 := (k5.2 b0 (by omega) (by omega)).trans hzy
    have hq5 := own_box hqy k5 hby
    have ht5 := own_box hty k5 hby
    have hbn5 := hby.1
    have hs5 : ∀ i, i < gs.length → Sub H5 gv[i]! gs[i]! H4.n := fun i hi => (hsub i hi).1.old l5 fun c hc => k5.2 c ((hsub i hi).1.blk c hc).2 (by have := ((hsub i hi).1.blk c hc).1; omega)
    obtain ⟨ob, rfl, ob1, ob2, hog⟩ : ∃ ob, ol = .slice (some ⟨ob, 0, none⟩) gn 0 ∧ Hy.n ≤ ob ∧ ob < H5.n ∧ H5.get ob = some (.cells (xs.map VI) 3 2) := by
      rcases hoo with ⟨_, h⟩ | ⟨ob, rfl, h1, h2, h3⟩
      · have := congrArg List.length h; rw [List.length_map, List.length_nil] at this; omega
      · exact ⟨ob, by rw [List.length_map, hol], h1, h2, h3⟩
    have hmin : min (3 : Int) (gn : Int) ≤ 3 ∧ min (3 : Int) (gn : Int) ≤ gn ∧ 1 ≤ min (3 : Int) (gn : Int) := by omega
    repeat' first
      | refine CO.cons rfl ?_
      | refine CO.nil ?_
      | refine CR.cons ?_
      | refine CV.wideR callees (by decide +kernel) [(0, []), (1, []), (2, []), (3, []), (4, []), (5, []), (6, [1]), (7, []), (8, [1]), (9, []), (10, []), (11, [])] (by kernel_rfl) ?_
      | (refine ⟨_, fS fe1 (by decide), ?_⟩)
      | (refine ⟨_, cell_load agGr hg5 rfl, ?_⟩)
      | (refine ⟨_, fun tm ha => step1_min rfl rfl (ev_tmp ha rfl), ?_⟩)
      | fail
    refine (any_spec (l := 1) (h := min 3 (gn : Int)) hB (by omega) hb5 (by omega) (by omega) (by omega)).mono ?_
    rintro r H6 ⟨⟨w, rfl, w1, w2⟩, hb6, k6⟩
    obtain ⟨w, rfl⟩ : ∃ n : Nat, w = (n : Int) := ⟨w.toNat, by omega⟩
    have l6 := k6.1
    have hg6 := (k6.2 b1 (by omega) (by omega)).trans hg5
    have hz6 := (k6.2 b0 (by omega) (by omega)).trans hz5
    have hq6 := own_box hq5 k6 hb5
    have ht6 := own_box ht5 k6 hb5
    have hog6 := (k6.2 ob (by omega) (by omega)).trans hog
    have hs6 : ∀ i, i < gs.length → Sub H6 gv[i]! gs[i]! H4.n := fun i hi => (hs5 i hi).old l6 fun c hc => k6.2 c ((hs5 i hi).blk c hc).2 (by have := ((hs5 i hi).blk c hc).1; omega)
    have x6 : KeepX b H H6 := (xy.trans k5).trans k6
    repeat' first
      | refine CR.cons ?_
      | (refine ⟨_, cell_load agGr hg6 rfl, ?_⟩)
      | (refine ⟨(rfl : _ = gq), ?_⟩)
      | (refine ⟨ht6.same, ?_⟩)
      | (refine ⟨_, sl_cut (by omega) (by omega), ?_⟩)
      | (refine ⟨_, _, build_one unG oneN rfl, ?_⟩)
      | fail
    refine append_askW unG oneN (by omega) ht6 (by omega) (by omega) (by omega) ?_
    intro q9 H9 hq9 kb9 hf9
    have l9 := kb9.le
    have hg9 := (kb9.get b1 (by omega) (fun h => by have := hta _ h; omega)).trans hg6
    have hz9 := (kb9.get b0 (by omega) (fun h => by have := hta _ h; omega)).trans hz6
    have hb9 := hb6.keepBut kb9 (fun h => by have := hta _ h; omega)
    have x9 := kb9.keepX x6 fun c hc => by have := hta _ hc; omega
    have hog9 := (kb9.get ob (by omega) (fun h => by have := htb _ h; omega)).trans hog6
    have hq9s : Own 3 H9 q (st.map VI) H2.n := own_keepF hq6 (by omega) fun c hc => kb9.get c (by have := hqc c hc; omega) fun h => by have := hta _ h; have := hqc c hc; omega
    repeat' first
      | refine CR.cons ?_
      | (refine ⟨_, fS fe1 (by decide), ?_⟩)
      | fail
    refine ⟨_, _, store_row (i := 1) szN hg9 (by show 1 < 2; decide) (Row.oneC hq9.row).1, by omega, ?_⟩
    generalize hsA : Heap.set H9 b1 _ = HA
    have hgA : HA.get b1 = some (.cells [q, q9] 68 1) := set_get hsA
    have nA := set_n hsA
    have oA := set_old hsA
    have kA : KeepX b1 H9 HA := ⟨by omega, fun c hc hcl => oA c hcl⟩
    have hwt : (xs.take w).length = w := by rw [List.length_take]; omega
    repeat' first
      | refine CO.cons rfl ?_
      | refine CO.nil ?_
      | refine CV.region callees ?_
      | refine CR.nil ?_
      | refine ⟨(⟨by omega, by omega⟩ : inI64 _), ?_⟩
      | fail
    refine ⟨(q9, gv ++ [.slice (some ⟨ob, 0, none⟩) w 0], gs ++ [xs.take w], k - 1), (by repeat' first | exact trivial | refine ⟨rfl, ?_⟩ | refine ⟨slot_int (by (try simp only [Int.toNat_natCast]); omega), ?_⟩), (by (try dsimp only); omega), ?_⟩
    refine ⟨by simp; omega, by omega, hgA, (oA b0 (by omega)).trans hz9, Own.keepX hq9s kA hg9, Own.keepX hq9 kA hg9, by simp [hgl], fun i hi => ?_, fun i hi => ?_, hb9.put (by omega) oA nA, KeepX.put x9 (by omega) oA nA, by omega⟩
    · rw [List.length_append, List.length_singleton] at hi
      rw [getElem!_pos _ i (by rw [List.length_append, List.length_singleton]; omega), getElem!_pos _ i (by rw [List.length_append, List.length_singleton]; omega)]
      by_cases hi2 : i < gs.length
      · rw [List.getElem_append_left (by omega), List.getElem_append_left hi2]
        have h1 := hs6 i hi2
        have h2 := (hsub i hi2).2
        rw [getElem!_pos gv i (by omega), getElem!_pos gs i hi2] at h1
        rw [getElem!_pos gv i (by omega)] at h2
        have h3 := (hsub i hi2).1.blk
        rw [getElem!_pos gv i (by omega)] at h3
        refine ⟨h1.old (by omega) fun c hc => (oA c (by have := h3 c hc; omega)).trans (kb9.get c (by have := h3 c hc; omega) (h2 c hc)), fun c hc h => ?_⟩
        have := hf9 c h
        have := h3 c hc
        omega
      · rw [List.getElem_append_right (by omega), List.getElem_append_right (by omega)]
        simp only [List.getElem_singleton]
        refine ⟨⟨ob, xs, by rw [hwt], by omega, by omega, (oA ob (by omega)).trans hog9, by rw [hwt], by omega⟩, fun c hc h => ?_⟩
        have := hf9 c h
        cases hc
        omega
    · rw [List.length_append, List.length_singleton] at hi
      rw [getElem!_pos _ i (by rw [List.length_append, List.length_singleton]; omega)]
      by_cases hi2 : i < gs.length
      · rw [List.getElem_append_left hi2]
        have := hgo i hi2
        rwa [getElem!_pos gs i hi2] at this
      · rw [List.getElem_append_right (by omega)]
        simp only [List.getElem_singleton]
        exact GuO.take ho (by omega) (by omega) (by omega) (by omega)
  obtain rfl : k = 0 := by omega
  repeat' first
    | refine CO.cons rfl ?_
    | refine CO.nil ?_
    | refine CV.seq ?_
    | refine CV.region callees ?_
    | refine CV.cond ?_
    | refine CV.exit ?_
    | (refine ⟨_, ldSe hgy, ?_⟩)
    | (refine ⟨fun _ => ?_, fun _ => ?_⟩ <;> first | (exfalso; omega) | skip)
    | fail
  refine ⟨_, _, stSe (Row.oneC hqy.row).1 (Row.oneC hty.row).1 hzy, by omega, ?_⟩
  generalize hs5 : Heap.set Hy b0 _ = H5
  have hg5 : H5.get b0 = some (.cells ([q, gq]) 68 1) := set_get hs5
  have n5 := set_n hs5
  have o5 := set_old hs5
  repeat' first
    | refine CO.nil ?_
    | refine CV.ret ?_
    | fail
  have kA : KeepX b0 Hy H5 := ⟨by omega, fun c hc hcl => o5 c hcl⟩
  refine ⟨_, ldSe hg5, rfl, ⟨q, gq, gv, st, gs, rfl, ⟨Own.lower (Own.keepX hqy kA hzy) (by omega), Own.lower (Own.keepX hty kA hzy) (by omega), hgl, fun i hi => ?_, ⟨by omega, by omega, fun x hx => by have := hst x hx; omega⟩, hgo⟩, by omega, fun x hx => (hst x hx).2, by omega⟩, hby.put (by omega) o5 n5, KeepX.put xy (by omega) o5 n5⟩
  obtain ⟨c, xs, h1, h2, h3, h4, h5, h6⟩ := (hsub i hi).1
  exact ⟨c, xs, h1, by omega, by omega, (o5 c (by omega)).trans h4, h5, h6⟩
end Go.Proofs.Ytjjmnfgnlcbfhaa
