
/- The law's stories: small things; what all stories of the first orders say. -/
import Derived.Test.Ytijimplcjaeneaas2o
import Derived.Test.Ytijimplcjaeneaai2o
set_option linter.unusedVariables false
set_option linter.unusedSimpArgs false
namespace Go.Proofs.Ytijimplcjaeneaa
open Go.AI
set_option maxRecDepth 100000 in
theorem spanF_spec {B : Nat} {H : Heap} {a b : Int} (hB : B ≤ H.n) : CallB Try.prog B 59 [VI a, VI b] H (fun r H' => r = Spv a b ∧ Keep H H') := by
  refine CV.enter callees false rfl Try.func59 rfl (by kernel_rfl) (Nat.le_of_ble_eq_true rfl) hB ?_
  repeat' first
    | refine CO.cons rfl ?_
    | refine CO.nil ?_
    | refine CV.seq ?_
    | refine CV.region callees ?_
    | (refine ⟨_, _, alSp, ?_⟩)
    | fail
  generalize hs0 : Heap.new H _ = H0
  have hg0 := new_get hs0
  have k0 := new_keep hs0
  have n0 := new_n hs0
  obtain ⟨b0, hbn0⟩ : ∃ b, Heap.n H = b := ⟨_, rfl⟩
  rw [hbn0] at hg0 n0 ⊢
  repeat' first
    | refine CO.cons rfl ?_
    | (refine ⟨_, buSp, ?_⟩)
    | fail
  refine ⟨_, _, stSp hg0, by omega, ?_⟩
  generalize hs1 : Heap.set H0 b0 _ = H1
  have hg1 : H1.get b0 = some (.cells ([VI a, VI b]) sT 1) := set_get hs1
  have n1 := set_n hs1
  have o1 := set_old hs1
  repeat' first
    | refine CO.nil ?_
    | refine CV.ret ?_
    | fail
  exact ⟨_, ldSp hg1, rfl, rfl, keep_put k0 (by omega) o1 n1⟩
theorem spNone {H : Heap} : abuildSlice Try.prog H sS 0 [] = some (.slice (some ⟨H.n, 0, none⟩) 0 0, H.new (.cells [] sT 2), H.n) := by kernel_rfl
set_option maxRecDepth 100000 in
theorem spansK_spec {B : Nat} {H : Heap} {v : Value} {ps : List (Int × Int)} (hB : B ≤ H.n) (hv : RowS 2 H v (ps.map Spl)) (hn : ps.length < 1000000) :
    CallB Try.prog B 62 [v] H (fun r H' => OwnSp H' r ps H.n ∧ Keep H H') := by
  refine CV.enter callees false rfl Try.func62 rfl (by kernel_rfl) (Nat.le_of_ble_eq_true rfl) hB ?_
  repeat' first
    | refine CO.cons rfl ?_
    | refine CO.nil ?_
    | refine CV.seq ?_
    | refine CV.region callees ?_
    | (refine ⟨_, _, spNone, ?_⟩)
    | fail
  refine copy_askS (z := [VI 0, VI 0]) unSs2 zeroSpb (by decide) hv hB (by rw [List.length_map]; exact hn) ?_
  intro q H6 hq k6
  repeat' first
    | refine CO.cons rfl ?_
    | refine CO.nil ?_
    | refine CV.ret ?_
    | fail
  exact ⟨by simp only [List.all_cons, List.all_nil, OwnS.notTuple hq]; rfl, hq, k6⟩
theorem updT_fold {E : List Ev} : ∀ {L : List (List Int)} {T : DSt × (Nat → List Int)}, (L.foldl (updT E) T).1 = L.foldl (stoU E) T.1 ∧ ∀ (d : Nat) x, x ∈ (L.foldl (updT E) T).2 d ↔ x ∈ T.2 d ∨ ∃ s ∈ L, hoS E s (d : Int) (-1) = x
  | [], T => ⟨rfl, fun d x => by simp⟩
  | s :: L, T => by
    obtain ⟨h1, h2⟩ := updT_fold (E := E) (L := L) (T := updT E T s)
    refine ⟨h1, fun d x => ?_⟩
    rw [List.foldl_cons, h2]
    simp only [updT, List.mem_cons, exists_eq_or_imp]
    constructor
    · rintro ((h | h) | h)
      · exact .inr (.inl h.symm)
      · exact .inl h
      · exact .inr (.inr h)
    · rintro (h | h | h)
      · exact .inl (.inr h)
      · exact .inl (.inl h.symm)
      · exact .inr h
theorem puts_bd : ∀ {A : List Ev} {st : DSt}, (A.foldl putE st).1.1 ≤ st.1.1 ∧ st.1.2 ≤ (A.foldl putE st).1.2
  | [], st => ⟨Int.le_refl _, Int.le_refl _⟩
  | e :: A, st => by
    obtain ⟨h1, h2⟩ := puts_bd (A := A) (st := putE st e)
    rw [List.foldl_cons]
    have h3 : (putE st e).1.1 ≤ st.1.1 ∧ st.1.2 ≤ (putE st e).1.2 := by
      unfold putE
      split
      · constructor
        · show min st.1.1 e.lo ≤ _; omega
        · show _ ≤ max st.1.2 e.hi; omega
      · exact ⟨Int.le_refl _, Int.le_refl _⟩
    omega
theorem dayF_bd {mk lo hi : Int} {ls : List Lk} : ∀ {S : List (List Int)} {st : DSt}, (S.foldl (dayO mk lo hi ls) st).1.1 ≤ st.1.1 ∧ st.1.2 ≤ (S.foldl (dayO mk lo hi ls) st).1.2
  | [], st => ⟨Int.le_refl _, Int.le_refl _⟩
  | o :: S, st => by
    have h1 := dayF_bd (mk := mk) (lo := lo) (hi := hi) (ls := ls) (S := S) (st := dayO mk lo hi ls st o)
    have h2 := puts_bd (A := evsL mk lo hi ls o) (st := st)
    rw [List.foldl_cons]
    unfold dayO at h1 ⊢
    omega
theorem stoU_flat {E : List Ev} {L : List (List Int)} {st : DSt} : L.foldl (stoU E) st = (L.flatMap (stoE E)).foldl putE st := by rw [fold_flat]; rfl
/-- With what was known before, one order more. -/
theorem one_more {mk lo hi : Int} {ls : List Lk} {o : List Int} {st : DSt} (h0 : 0 ≤ lo) (h1 : lo ≤ hi) (hc : ChainO ls mk lo o) (hn : st.2.length = ls.length) (ha : st.1.1 ≤ 100000) (hb : 0 ≤ st.1.2) :
    dayO mk lo hi ls st o = ((min st.1.1 ((stoF (raw mk lo hi ls o) (-1)).foldl (stoU (raw mk lo hi ls o)) ((100000, -1), st.2)).1.1, max st.1.2 ((stoF (raw mk lo hi ls o) (-1)).foldl (stoU (raw mk lo hi ls o)) ((100000, -1), st.2)).1.2), ((stoF (raw mk lo hi ls o) (-1)).foldl (stoU (raw mk lo hi ls o)) ((100000, -1), st.2)).2) ∧
    0 ≤ ((stoF (raw mk lo hi ls o) (-1)).foldl (stoU (raw mk lo hi ls o)) ((100000, -1), st.2)).1.2 := by
  constructor
  · rw [← sto_days (st := st) h0 h1 hc hn, stoU_flat, stoU_flat]
    have := put_merge (A := (stoF (raw mk lo hi ls o) (-1)).flatMap (stoE (raw mk lo hi ls o))) (m := st.1) (m' := (100000, -1)) (L := st.2)
    rw [← this]
    congr 1
    apply Prod.ext
    · apply Prod.ext
      · show st.1.1 = min st.1.1 100000; omega
      · show st.1.2 = max st.1.2 (-1); omega
    · rfl
  · rw [sto_days (st := ((100000, -1), st.2)) h0 h1 hc hn]
    unfold dayO
    obtain ⟨h, hd, _⟩ := downL_ex (e := ⟨-1, mk, lo, hi⟩) (t := upL ls lo o)
    have hE : evsL mk lo hi ls o = ⟨-1, mk, lo, h⟩ :: downL (upL ls lo o) := hd
    have hlh := evs_ok h1 hc ⟨-1, mk, lo, h⟩ (by rw [hE]; simp)
    have hk := slots_le (n := ls.length) (k := -1) (.inl rfl) (A := evsL mk lo hi ls o) (st := ((100000, -1), st.2)) hn (fun e he => evs_kin hc.mem e he)
    have := hk.2.2.1 ⟨-1, mk, lo, h⟩ (by rw [hE]; simp) rfl
    simp only [slot, if_true] at this hlh
    omega
def dueB (mk lo hi : Int) (ls : List Lk) (w : List Int) : Bool := linkB ls mk w && !(stoF (raw mk lo hi ls w) (-1)).isEmpty
theorem filtS {α : Type} [Inhabited α] {P : α → Bool} {L : List α} {i : Nat} (h : i < L.length) : (L.take (i + 1)).filter P = (L.take i).filter P ++ if P L[i]! = true then [L[i]!] else [] := by
  rw [List.take_succ_eq_append_getElem h, List.filter_append, getElem!_pos L i h]
  congr 1
  by_cases c : P L[i] = true
  · rw [if_pos c, List.filter_cons_of_pos c, List.filter_nil]
  · rw [if_neg c, List.filter_cons_of_neg c, List.filter_nil]
theorem hoL_iff {mk lo hi d : Int} {ls : List Lk} {k : Nat} (hk : k < 21) : ((k : Int) - 1 ∈ hoL mk lo hi ls d) ↔ (k : Int) - 1 ∈ keysF mk lo hi ls d (ordersL mk lo ls) := by
  unfold hoL
  rw [List.mem_filter, decide_eq_true_eq]
  exact ⟨fun h => h.2, fun h => ⟨List.mem_map.2 ⟨k, List.mem_range.2 hk, rfl⟩, h⟩⟩
/-- How many marks there are among the first. -/
def cntT (M : List Int) : Nat → Nat
  | 0 => 0
  | k + 1 => cntT M k + if (tabM M)[k]! = true then 1 else 0
theorem cntT_le {M : List Int} : ∀ {k : Nat}, cntT M k ≤ k
  | 0 => Nat.le_refl _
  | k + 1 => by have := cntT_le (M := M) (k := k); rw [cntT]; split <;> omega
theorem cntT_filter {M : List Int} : ∀ {k : Nat}, cntT M k = ((List.range k).filter fun i => (tabM M)[i]!).length
  | 0 => rfl
  | k + 1 => by
    rw [cntT, cntT_filter, List.range_succ, List.filter_append, List.length_append]
    by_cases h : (tabM M)[k]! = true
    · rw [if_pos h, List.filter_cons_of_pos h]; rfl
    · rw [if_neg h, List.filter_cons_of_neg h]; rfl
theorem cntT_all {mk lo hi d : Int} {ls : List Lk} {M : List Int} (h : ∀ x, x ∈ M ↔ x ∈ keysF mk lo hi ls d (ordersL mk lo ls)) : cntT M 21 = (hoL mk lo hi ls d).length := by
  rw [cntT_filter]
  unfold hoL
  rw [List.filter_map, List.length_map]
  congr 1
  apply List.filter_congr
  intro i hi
  rw [tabM_at (List.mem_range.1 hi)]
  simp only [Function.comp]
  congr 1
  exact propext (h _)
end Go.Proofs.Ytijimplcjaeneaa

