
/- Conflicts, as numbers. -/
import Derived.Test.YtlamceokhbigaaaTtg
import Derived.Test.Ytlamceokhbigaaau0g
set_option linter.unusedVariables false
set_option linter.unusedSimpArgs false
namespace Go.Proofs.Ytlamceokhbigaaa
open Go.AI
theorem brkN_bit {n : Nat} {S R : List Int} {rs : List Ru} {j : Nat} : ∀ {i : Nat}, (brkN n S R rs i).testBit j = (decide (j < i) && !keepN n S R rs[j]!)
  | 0 => by simp [brkN]
  | i + 1 => by
    have ih := brkN_bit (n := n) (S := S) (R := R) (rs := rs) (j := j) (i := i)
    unfold brkN
    by_cases e : j = i
    · subst e
      have hlt : (brkN n S R rs j).testBit j = false := by rw [ih]; simp
      cases k : keepN n S R rs[j]! with
      | true => rw [cond_true, hlt, Bool.not_true, Bool.and_false]
      | false =>
        rw [cond_false, Nat.testBit_or, Nat.testBit_two_pow_self, Bool.or_true, decide_eq_true (show j < j + 1 by omega)]
        rfl
    · have hd : decide (j < i + 1) = decide (j < i) := by rw [decide_eq_decide]; omega
      rw [hd, ← ih]
      cases keepN n S R rs[i]!
      · rw [cond_false, Nat.testBit_or, Nat.testBit_two_pow_of_ne (by omega), Bool.or_false]
      · rfl
/-- What an order breaks of the rules that must be kept. -/
def brS (gs : List Gu) (rs : List Ru) (o : List Int) : Nat := brkO gs rs o &&& strN rs rs.length
theorem brS_bit {gs : List Gu} {rs : List Ru} {o : List Int} {j : Nat} : (brS gs rs o).testBit j = true ↔ j < rs.length ∧ rs[j]!.wt = 0 ∧ keepN gs.length (seatL o) (rankL gs o) rs[j]! = false := by
  unfold brS brkO
  rw [Nat.testBit_and, brkN_bit, strN_bit]
  simp only [Bool.and_eq_true, decide_eq_true_eq, Bool.not_eq_true']
  constructor
  · rintro ⟨⟨h1, h2⟩, h3, h4⟩
    exact ⟨h1, h4, h2⟩
  · rintro ⟨h1, h2, h3⟩
    exact ⟨⟨h1, h3⟩, h1, h2⟩
theorem zero_bits {N : Nat} : N = 0 ↔ ∀ j, ¬ N.testBit j = true := by
  constructor
  · rintro rfl j
    rw [Nat.zero_testBit]
    exact Bool.false_ne_true
  · intro h
    apply Nat.eq_of_testBit_eq
    intro j
    rw [Nat.zero_testBit]
    exact Bool.eq_false_iff.2 (h j)
theorem okB_iff {gs : List Gu} {rs : List Ru} {o : List Int} : okB gs rs o = true ↔ ∀ j, j < rs.length → rs[j]!.wt = 0 → keepN gs.length (seatL o) (rankL gs o) rs[j]! = true := by
  have e : okB gs rs o = true ↔ brS gs rs o = 0 := by
    unfold okB brS
    exact beq_iff_eq
  rw [e, zero_bits]
  constructor
  · intro h j h1 h2
    have h3 := h j
    rw [brS_bit] at h3
    cases k : keepN gs.length (seatL o) (rankL gs o) rs[j]! with
    | true => rfl
    | false => exact absurd ⟨h1, h2, k⟩ h3
  · intro h j h1
    obtain ⟨h2, h3, h4⟩ := brS_bit.1 h1
    rw [h j h2 h3] at h4
    cases h4
/-- Some rules alone, all of which must be kept. -/
def zeR (r : Ru) : Ru := ⟨r.kd, r.a, r.b, 0⟩
def onlyR (rs : List Ru) (l : List Int) : List Ru := l.map fun x => zeR rs[x.toNat]!
theorem keep_ze {n : Nat} {S R : List Int} {r : Ru} : keepN n S R (zeR r) = keepN n S R r := rfl
theorem only_at {rs : List Ru} {l : List Int} {j : Nat} (h : j < l.length) : (onlyR rs l)[j]! = zeR rs[l[j]!.toNat]! := by
  unfold onlyR
  rw [map_at h]
theorem only_len {rs : List Ru} {l : List Int} : (onlyR rs l).length = l.length := by
  unfold onlyR
  rw [List.length_map]
theorem ok_only {gs : List Gu} {rs : List Ru} {l o : List Int} : okB gs (onlyR rs l) o = true ↔ ∀ x ∈ l, keepN gs.length (seatL o) (rankL gs o) rs[x.toNat]! = true := by
  rw [okB_iff]
  constructor
  · intro h x hx
    obtain ⟨j, hj, e⟩ := List.getElem_of_mem hx
    have h1 := h j (by rw [only_len]; exact hj) (by rw [only_at hj]; rfl)
    rw [only_at hj, keep_ze, getElem!_pos l j hj, e] at h1
    exact h1
  · intro h j hj _
    rw [only_len] at hj
    rw [only_at hj, keep_ze]
    exact h _ (by rw [getElem!_pos l j hj]; exact List.getElem_mem _)
theorem only_pa {gs : List Gu} {rs : List Ru} {l : List Int} (hp : PaOk gs rs) (hl : l.length ≤ 12) (hi : ∀ x ∈ l, 0 ≤ x ∧ x < rs.length) : PaOk gs (onlyR rs l) := by
  refine ⟨hp.n1, hp.n7, hp.gk, by rw [only_len]; exact hl, fun j hj => ?_⟩
  rw [only_len] at hj
  rw [only_at hj]
  have hm : l[j]! ∈ l := by rw [getElem!_pos l j hj]; exact List.getElem_mem _
  have hb := hi _ hm
  obtain ⟨a1, a2, a3, a4, a5, a6, _, _⟩ := hp.rk l[j]!.toNat (by omega)
  exact ⟨a1, a2, a3, a4, a5, a6, Int.le_refl _, by show (0 : Int) ≤ 1000; decide⟩
/-- Whether a choice has one of each. -/
def hitA (A : List Nat) (N : Nat) : Bool := A.all fun a => (N &&& a) != 0
theorem and_bits {N a : Nat} : (N &&& a) ≠ 0 ↔ ∃ j, N.testBit j = true ∧ a.testBit j = true := by
  constructor
  · intro h
    by_cases c : ∃ j, N.testBit j = true ∧ a.testBit j = true
    · exact c
    · exfalso
      apply h
      rw [zero_bits]
      intro j hj
      rw [Nat.testBit_and, Bool.and_eq_true] at hj
      exact c ⟨j, hj⟩
  · rintro ⟨j, h1, h2⟩ h
    have := zero_bits.1 h j
    rw [Nat.testBit_and, h1, h2] at this
    exact this rfl
theorem hitA_iff {A : List Nat} {N : Nat} : hitA A N = true ↔ ∀ a ∈ A, ∃ j, N.testBit j = true ∧ a.testBit j = true := by
  unfold hitA
  rw [List.all_eq_true]
  constructor
  · intro h a ha
    have := h a ha
    rw [bne_iff_ne] at this
    exact and_bits.1 this
  · intro h a ha
    rw [bne_iff_ne]
    exact and_bits.2 (h a ha)
/-- Whether all of the first bits are among the second ones. -/
def subN (N St : Nat) : Bool := (N &&& St) == N
theorem subN_iff {N St : Nat} : subN N St = true ↔ ∀ j, N.testBit j = true → St.testBit j = true := by
  unfold subN
  rw [beq_iff_eq]
  constructor
  · intro h j hj
    rw [← h, Nat.testBit_and, Bool.and_eq_true] at hj
    exact hj.2
  · intro h
    apply Nat.eq_of_testBit_eq
    intro j
    rw [Nat.testBit_and]
    cases k : N.testBit j with
    | false => rfl
    | true => rw [h j k]; rfl
def chK (St : Nat) (A : List Nat) (k : Nat) : Bool := subN k St && hitA A k
def fewK (St m : Nat) (A : List Nat) : Nat → List Int
  | 0 => bitsL St m
  | k + 1 => if chK St A k = true ∧ cfL (bitsL k m) (fewK St m A k) = true then bitsL k m else fewK St m A k
theorem few_best {St m : Nat} {A : List Nat} (h0 : chK St A St = true) : ∀ K, K ≤ St → (∃ N, N ≤ St ∧ chK St A N = true ∧ fewK St m A K = bitsL N m) ∧ ∀ k, k < K → chK St A k = true → ¬ cfL (bitsL k m) (fewK St m A K) = true
  | 0, _ => ⟨⟨St, Nat.le_refl _, h0, rfl⟩, fun k hk => absurd hk (Nat.not_lt_zero _)⟩
  | K + 1, hK => by
    obtain ⟨⟨N, h1, h2, h3⟩, h4⟩ := few_best (m := m) h0 K (by omega)
    have hs : fewK St m A (K + 1) = if chK St A K = true ∧ cfL (bitsL K m) (fewK St m A K) = true then bitsL K m else fewK St m A K := rfl
    by_cases c : chK St A K = true ∧ cfL (bitsL K m) (fewK St m A K) = true
    · rw [if_pos c] at hs
      rw [hs]
      refine ⟨⟨K, by omega, c.1, rfl⟩, fun k hk hc hb => ?_⟩
      by_cases e : k = K
      · rw [e] at hb; exact cfL_self hb
      · exact h4 k (by omega) hc (cfL_trans hb c.2)
    · rw [if_neg c] at hs
      rw [hs]
      refine ⟨⟨N, h1, h2, h3⟩, fun k hk hc hb => ?_⟩
      by_cases e : k = K
      · rw [e] at hb hc; exact c ⟨hc, hb⟩
      · exact h4 k (by omega) hc hb
theorem bits_asc {N : Nat} : ∀ {i : Nat}, (bitsL N i).Pairwise (· < ·)
  | 0 => List.Pairwise.nil
  | i + 1 => by
    have ih := bits_asc (N := N) (i := i)
    unfold bitsL
    cases hasN N i
    · exact ih
    · rw [cond_true, List.pairwise_append]
      refine ⟨ih, List.pairwise_singleton _ _, fun a ha b hb => ?_⟩
      rw [List.mem_singleton] at hb
      have := bits_lt ha
      omega
theorem drop_bit {N j i : Nat} (h : N.testBit j = true) : (N ^^^ 2 ^ j).testBit i = (N.testBit i && decide (i ≠ j)) := by
  rw [Nat.testBit_xor]
  by_cases e : i = j
  · subst e
    rw [Nat.testBit_two_pow_self, h, decide_eq_false (by simp)]
    rfl
  · rw [Nat.testBit_two_pow_of_ne (by omega), Bool.xor_false, decide_eq_true e, Bool.and_true]
theorem drop_lt {N j : Nat} (h : N.testBit j = true) : N ^^^ 2 ^ j < N := by
  have e : N &&& (N ^^^ 2 ^ j) = N ^^^ 2 ^ j := by
    apply Nat.eq_of_testBit_eq
    intro i
    rw [Nat.testBit_and, drop_bit h]
    cases N.testBit i <;> rfl
  have hle : N ^^^ 2 ^ j ≤ N := by
    have := Nat.and_le_left (n := N) (m := N ^^^ 2 ^ j)
    rwa [e] at this
  refine Nat.lt_of_le_of_ne hle fun h2 => ?_
  have h3 := drop_bit (i := j) h
  rw [h2, h, decide_eq_false (by simp)] at h3
  cases h3
theorem bits_drop {N j : Nat} (h : N.testBit j = true) : ∀ {m : Nat}, bitsL (N ^^^ 2 ^ j) m = (bitsL N m).filter fun x => decide (x ≠ (j : Int))
  | 0 => rfl
  | m + 1 => by
    have ih := bits_drop h (m := m)
    have hb : hasN (N ^^^ 2 ^ j) m = (hasN N m && decide (m ≠ j)) := by rw [hasN_bit, hasN_bit, drop_bit h]
    rw [bitsL, bitsL, hb, ih]
    cases hasN N m
    · rfl
    · rw [Bool.true_and, cond_true, List.filter_append]
      by_cases e : m = j
      · subst e
        rw [decide_eq_false (by simp), cond_false]
        simp
      · rw [decide_eq_true e, cond_true]
        have e2 : decide ((m : Int) ≠ (j : Int)) = true := decide_eq_true (by omega)
        rw [show List.filter (fun x => decide (x ≠ (j : Int))) [(m : Int)] = [(m : Int)] from List.filter_cons_of_pos e2]
/-- What the orders break, each once. -/
structure AllB (gs : List Gu) (rs : List Ru) (O : List (List Int)) (A : List Nat) : Prop where
  a : ∀ a ∈ A, ∃ o ∈ O, a = brS gs rs o
  o : ∀ o ∈ O, brS gs rs o ∈ A
  nz : ∀ a ∈ A, a ≠ 0
/-- The conflict that is found. -/
structure ConfL (gs : List Gu) (rs : List Ru) (l : List Int) : Prop where
  r : ∀ x ∈ l, 0 ≤ x ∧ x < rs.length ∧ rs[x.toNat]!.wt = 0
  asc : l.Pairwise (· < ·)
  non : okL gs (onlyR rs l) = []
  min : ∀ i, i < l.length → okL gs (onlyR rs (l.take i ++ l.drop (i + 1))) ≠ []
theorem conf_ok {gs : List Gu} {rs : List Ru} {A : List Nat} {m : Nat} (hA : AllB gs rs (fillL gs.length gs.length []) A) (hm : rs.length ≤ m) : ConfL gs rs (fewK (strN rs rs.length) m A (strN rs rs.length)) := by
  obtain ⟨St, hSt⟩ : ∃ St, strN rs rs.length = St := ⟨_, rfl⟩
  have hStb : ∀ j, St.testBit j = true ↔ j < rs.length ∧ rs[j]!.wt = 0 := fun j => by
    rw [← hSt, strN_bit, Bool.and_eq_true, decide_eq_true_eq, decide_eq_true_eq]
  have hAs : ∀ a ∈ A, ∀ j, a.testBit j = true → St.testBit j = true := fun a ha j hj => by
    obtain ⟨o, _, rfl⟩ := hA.a a ha
    obtain ⟨h1, h2, _⟩ := brS_bit.1 hj
    exact (hStb j).2 ⟨h1, h2⟩
  have h0 : chK St A St = true := by
    unfold chK
    rw [Bool.and_eq_true, subN_iff, hitA_iff]
    refine ⟨fun j h => h, fun a ha => ?_⟩
    have hne := hA.nz a ha
    by_cases c : ∃ j, a.testBit j = true
    · obtain ⟨j, hj⟩ := c
      exact ⟨j, hAs a ha j hj, hj⟩
    · exact absurd (zero_bits.2 fun j hj => c ⟨j, hj⟩) hne
  rw [hSt]
  obtain ⟨⟨N, h1, h2, h3⟩, h4⟩ := few_best (m := m) h0 St (Nat.le_refl _)
  rw [h3] at h4 ⊢
  unfold chK at h2
  rw [Bool.and_eq_true, subN_iff, hitA_iff] at h2
  obtain ⟨hsub, hhit⟩ := h2
  have hmem : ∀ {x : Int}, x ∈ bitsL N m ↔ ∃ j : Nat, x = (j : Int) ∧ N.testBit j = true := fun {x} => by
    rw [mem_bits]
    constructor
    · rintro ⟨j, _, e, h⟩
      exact ⟨j, e, by rw [← hasN_bit]; exact h⟩
    · rintro ⟨j, e, h⟩
      have := ((hStb j).1 (hsub j h)).1
      exact ⟨j, by omega, e, by rw [hasN_bit]; exact h⟩
  refine ⟨fun x hx => ?_, bits_asc, ?_, fun i hi => ?_⟩
  · obtain ⟨j, rfl, h⟩ := hmem.1 hx
    obtain ⟨h5, h6⟩ := (hStb j).1 (hsub j h)
    exact ⟨by omega, by omega, h6⟩
  · apply List.eq_nil_iff_forall_not_mem.2
    intro o ho
    obtain ⟨hf, hok⟩ := mem_okL.1 ho
    rw [ok_only] at hok
    obtain ⟨j, hj1, hj2⟩ := hhit _ (hA.o o (mem_orders.2 hf))
    have h5 := (brS_bit.1 hj2).2.2
    have h6 := hok (j : Int) (hmem.2 ⟨j, rfl, hj1⟩)
    rw [show ((j : Int)).toNat = j by omega, h5] at h6
    cases h6
  · have hmi : (bitsL N m)[i] ∈ bitsL N m := List.getElem_mem _
    obtain ⟨j, ej, hj⟩ := hmem.1 hmi
    have hlt := drop_lt hj
    have hnb := h4 (N ^^^ 2 ^ j) (by omega)
    have hshort : (bitsL (N ^^^ 2 ^ j) m).length < (bitsL N m).length := by
      rw [bits_drop hj]
      apply List.length_filter_lt_length_iff_exists.2
      exact ⟨_, hmi, by rw [ej]; simp⟩
    have hcf : cfL (bitsL (N ^^^ 2 ^ j) m) (bitsL N m) = true := cfL_iff.2 (.inl hshort)
    have hnc : ¬ chK St A (N ^^^ 2 ^ j) = true := fun h => hnb h hcf
    have hsub2 : subN (N ^^^ 2 ^ j) St = true := by
      rw [subN_iff]
      intro q hq
      rw [drop_bit hj, Bool.and_eq_true] at hq
      exact hsub q hq.1
    unfold chK at hnc
    rw [hsub2, Bool.true_and, hitA_iff] at hnc
    have hex : ∃ a ∈ A, ¬ ∃ q, (N ^^^ 2 ^ j).testBit q = true ∧ a.testBit q = true := by
      by_cases c : ∃ a ∈ A, ¬ ∃ q, (N ^^^ 2 ^ j).testBit q = true ∧ a.testBit q = true
      · exact c
      · exfalso
        apply hnc
        intro a ha
        by_cases c2 : ∃ q, (N ^^^ 2 ^ j).testBit q = true ∧ a.testBit q = true
        · exact c2
        · exact absurd ⟨a, ha, c2⟩ c
    obtain ⟨a, ha, hno⟩ := hex
    obtain ⟨o, ho, rfl⟩ := hA.a a ha
    have hin : o ∈ okL gs (onlyR rs ((bitsL N m).take i ++ (bitsL N m).drop (i + 1))) := by
      rw [mem_okL]
      refine ⟨mem_orders.1 ho, ok_only.2 fun x hx => ?_⟩
      have hx2 : x ∈ bitsL N m ∧ x ≠ (j : Int) := by
        rw [← ej]
        have hd : bitsL N m = (bitsL N m).take i ++ (bitsL N m)[i] :: (bitsL N m).drop (i + 1) := by
          rw [← List.drop_eq_getElem_cons hi, List.take_append_drop]
        have hasc : (bitsL N m).Pairwise (· < ·) := bits_asc
        rw [hd, List.pairwise_append] at hasc
        obtain ⟨_, q2, q3⟩ := hasc
        rw [List.pairwise_cons] at q2
        rcases List.mem_append.1 hx with h | h
        · exact ⟨List.mem_of_mem_take h, by have := q3 x h _ (List.mem_cons_self ..); omega⟩
        · exact ⟨List.mem_of_mem_drop h, by have := q2.1 x h; omega⟩
      obtain ⟨q, rfl, hq⟩ := hmem.1 hx2.1
      rw [show ((q : Int)).toNat = q by omega]
      have hqj : q ≠ j := fun e => hx2.2 (by rw [e])
      cases k : keepN gs.length (seatL o) (rankL gs o) rs[q]! with
      | true => rfl
      | false =>
        exfalso
        obtain ⟨h5, h6⟩ := (hStb q).1 (hsub q hq)
        exact hno ⟨q, by rw [drop_bit hj, hq, decide_eq_true hqj]; rfl, brS_bit.2 ⟨h5, h6, k⟩⟩
    intro he
    rw [he] at hin
    cases hin
end Go.Proofs.Ytlamceokhbigaaa

