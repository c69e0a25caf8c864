
/- Plans, tried one after another: what comes out of it. -/
import Derived.Test.Ytijimplcjaeneaag1o
set_option linter.unusedVariables false
set_option linter.unusedSimpArgs false
namespace Go.Proofs.Ytijimplcjaeneaa
open Go.AI
theorem cntF_app {gs : List (List Int)} {p q : List Int} : ∀ {i : Nat}, i ≤ p.length → cntF gs (p ++ q) i = cntF gs p i
  | 0, _ => rfl
  | i + 1, h => by
    simp only [cntF]
    rw [cntF_app (by omega), getElem!_pos (p ++ q) i (by rw [List.length_append]; omega), List.getElem_append_left (by omega), getElem!_pos p i (by omega)]
theorem againL_app {gs : List (List Int)} {p q : List Int} {i : Nat} (h : i < p.length) : againL gs (p ++ q) i = againL gs p i := by
  unfold againL
  rw [cntF_app (by omega), getElem!_pos (p ++ q) i (by rw [List.length_append]; omega), List.getElem_append_left (by omega), getElem!_pos p i (by omega)]
theorem repS_app {gs : List (List Int)} {p q : List Int} : ∀ {i : Nat}, i ≤ p.length → repS gs (p ++ q) i = repS gs p i
  | 0, _ => rfl
  | i + 1, h => by
    simp only [repS]
    rw [repS_app (by omega), againL_app (by omega)]
/-- How many repeats a plan has. -/
def repP (gs : List (List Int)) (p : List Int) : Int := (repS gs p p.length).2.2
/-- How many combinations were taken. -/
def tak (p : List Int) : Nat := p.foldl (fun m x => max m (x.toNat + 1)) 0
theorem tak_snoc {p : List Int} {c : Nat} : tak (p ++ [(c : Int)]) = max (tak p) (c + 1) := by
  unfold tak
  rw [List.foldl_append]
  simp
/-- Those who meet a combination again, behind a plan. -/
def againP (gs : List (List Int)) (p : List Int) (c : Int) : List Int := gs[p.length]!.filter fun g => decide (0 < cntF gs p p.length g c)
theorem pl_snoc {p : List Int} {c : Int} : (p ++ [c])[p.length]! = c := by
  rw [getElem!_pos _ _ (by simp), List.getElem_append_right (Nat.le_refl _)]
  simp
theorem againL_snoc {gs : List (List Int)} {p : List Int} {c : Int} : againL gs (p ++ [c]) p.length = againP gs p c := by
  unfold againL againP
  rw [pl_snoc, cntF_app (Nat.le_refl _)]
theorem cntF_snoc {gs : List (List Int)} {p : List Int} {c : Int} : cntF gs (p ++ [c]) (p ++ [c]).length = addF (cntF gs p p.length) gs[p.length]! c 1 := by
  rw [List.length_append, List.length_singleton]
  simp only [cntF]
  rw [cntF_app (Nat.le_refl _), pl_snoc]
theorem repP_snoc {gs : List (List Int)} {p : List Int} {c : Int} : repP gs (p ++ [c]) = repP gs p + (againP gs p c).length := by
  unfold repP
  rw [List.length_append, List.length_singleton, ← againL_snoc]
  simp only [repS]
  rw [repS_app (Nat.le_refl _)]
theorem repP_nonneg {gs : List (List Int)} {p : List Int} : 0 ≤ repP gs p := by
  unfold repP
  exact rep_mono (gs := gs) (plan := p) (n := 0) (Nat.zero_le _)
theorem again_le {gs : List (List Int)} (hg : GsOk gs) {p : List Int} {c : Int} (h : p.length < gs.length) : ((againP gs p c).length : Int) ≤ 12 := by
  have h1 : (againP gs p c).Nodup := List.Nodup.sublist List.filter_sublist (hg.nd _ h)
  have h2 := cntG_len (k := 12) h1 fun x hx => by
    have := hg.r _ h x (List.mem_filter.1 hx).1
    omega
  have h3 : ∀ (l : List Int) (k : Nat), cntG l k ≤ k := fun l k => by
    induction k with
    | zero => exact Int.le_refl _
    | succ k ih => rw [cntG]; split <;> omega
  have := h3 (againP gs p c) 12
  omega
theorem repP_bd {gs : List (List Int)} (hg : GsOk gs) {p : List Int} (h : p.length ≤ gs.length) : repP gs p ≤ 12 * ((p.length : Int) - 1) ∨ p = [] := by
  rcases List.eq_nil_or_concat p with rfl | ⟨p, c, rfl⟩
  · exact .inr rfl
  · rw [List.concat_eq_append] at h ⊢
    rw [List.length_append, List.length_singleton] at h ⊢
    left
    rw [repP_snoc]
    have h1 := again_le hg (p := p) (c := c) (by omega)
    rcases repP_bd hg (p := p) (by omega) with h2 | rfl
    · omega
    · have : againP gs [] c = [] := by
        unfold againP
        rw [List.filter_eq_nil_iff]
        intro x _
        simp [cntF]
      rw [this]
      simp [repP, repS]
  termination_by p.length
  decreasing_by simp_wf; subst_vars; simp
theorem repP_lt {gs : List (List Int)} (hg : GsOk gs) {p : List Int} (h : p.length ≤ gs.length) : 0 ≤ repP gs p ∧ repP gs p < 108 := by
  have h9 := hg.n
  refine ⟨repP_nonneg, ?_⟩
  rcases repP_bd hg h with h1 | rfl
  · omega
  · simp [repP, repS]
/-- A walk through plans: each one changes a state, and grows if that says so. -/
def walkP {S : Type} (gr : S → List Int → Bool) (nx : S → List Int → S) (K : Nat) : Nat → List Int → S → S
  | 0, p, s => nx s p
  | r + 1, p, s => if gr s p = true then (List.range (min (tak p + 1) K)).foldl (fun s (c : Nat) => walkP gr nx K r (p ++ [(c : Int)]) s) (nx s p) else nx s p
def walkK {S : Type} (gr : S → List Int → Bool) (nx : S → List Int → S) (K r : Nat) (p : List Int) (s : S) (i : Nat) : S := (List.range i).foldl (fun s (c : Nat) => walkP gr nx K r (p ++ [(c : Int)]) s) s
theorem walkK_succ {S : Type} {gr : S → List Int → Bool} {nx : S → List Int → S} {K r : Nat} {p : List Int} {s : S} {i : Nat} : walkK gr nx K r p s (i + 1) = walkP gr nx K r (p ++ [(i : Int)]) (walkK gr nx K r p s i) := by
  unfold walkK
  rw [List.range_succ, List.foldl_append]
  rfl
/-- Whether the longest plan grows, and what it is then. -/
def grA (gs : List (List Int)) (s p : List Int) : Bool := !(decide (0 < repP gs p) || decide (s.length = gs.length))
def nxA (gs : List (List Int)) (s p : List Int) : List Int := if grA gs s p = true ∧ s.length < p.length then p else s
def planA (gs : List (List Int)) (K : Nat) : List Int := walkP (grA gs) (nxA gs) K gs.length [] []
/-- All plans of so many more gatherings that begin so. -/
def genK (K : Nat) : Nat → List Int → List (List Int)
  | 0, p => [p]
  | r + 1, p => (List.range (min (tak p + 1) K)).flatMap fun (c : Nat) => genK K r (p ++ [(c : Int)])
/-- All without repeats, of any length. -/
def nodesK (gs : List (List Int)) (K : Nat) : Nat → List Int → List (List Int)
  | 0, p => if repP gs p = 0 then [p] else []
  | r + 1, p => if repP gs p = 0 then p :: (List.range (min (tak p + 1) K)).flatMap fun (c : Nat) => nodesK gs K r (p ++ [(c : Int)]) else []
def updA (s p : List Int) : List Int := if s.length < p.length then p else s
theorem fold_flat {α β σ : Type} {f : α → List β} {g : σ → β → σ} : ∀ {l : List α} {s : σ}, (l.flatMap f).foldl g s = l.foldl (fun s a => (f a).foldl g s) s
  | [], _ => rfl
  | a :: l, s => by rw [List.flatMap_cons, List.foldl_append, fold_flat, List.foldl_cons]
theorem updA_full : ∀ {L : List (List Int)} {s : List Int}, (∀ q ∈ L, q.length ≤ s.length) → L.foldl updA s = s
  | [], _, _ => rfl
  | q :: L, s, h => by
    have h1 := h q (by simp)
    rw [List.foldl_cons, show updA s q = s by unfold updA; rw [if_neg (by omega)]]
    exact updA_full fun x hx => h x (by simp [hx])
theorem nodes_len {gs : List (List Int)} {K : Nat} : ∀ {r : Nat} {p q : List Int}, q ∈ nodesK gs K r p → p.length ≤ q.length ∧ q.length ≤ p.length + r
  | 0, p, q, h => by
    unfold nodesK at h
    split at h
    · rw [List.mem_singleton] at h; subst h; omega
    · cases h
  | r + 1, p, q, h => by
    unfold nodesK at h
    split at h
    · rcases List.mem_cons.1 h with rfl | h
      · omega
      · obtain ⟨c, _, h⟩ := List.mem_flatMap.1 h
        have := nodes_len h
        rw [List.length_append, List.length_singleton] at this
        omega
    · cases h
theorem nodes_rep {gs : List (List Int)} {K : Nat} : ∀ {r : Nat} {p q : List Int}, q ∈ nodesK gs K r p → repP gs q = 0
  | 0, p, q, h => by
    unfold nodesK at h
    split at h
    · rw [List.mem_singleton] at h; subst h; assumption
    · cases h
  | r + 1, p, q, h => by
    unfold nodesK at h
    split at h
    · rcases List.mem_cons.1 h with rfl | h
      · assumption
      · obtain ⟨c, _, h⟩ := List.mem_flatMap.1 h
        exact nodes_rep h
    · cases h
theorem updA_le : ∀ {L : List (List Int)} {s : List Int} {n : Nat}, s.length ≤ n → (∀ q ∈ L, q.length ≤ n) → (L.foldl updA s).length ≤ n
  | [], _, _, h, _ => h
  | q :: L, s, n, h, hL => by
    rw [List.foldl_cons]
    refine updA_le ?_ fun x hx => hL x (by simp [hx])
    unfold updA
    split
    · exact hL q (by simp)
    · exact h
theorem fold_congr {α σ : Type} {f g : σ → α → σ} {P : σ → Prop} : ∀ {l : List α} {s : σ}, (∀ s a, a ∈ l → P s → f s a = g s a) → (∀ s a, a ∈ l → P s → P (f s a)) → P s → l.foldl f s = l.foldl g s
  | [], _, _, _, _ => rfl
  | a :: l, s, h1, h2, hs => by
    rw [List.foldl_cons, List.foldl_cons, ← h1 s a (by simp) hs]
    exact fold_congr (P := P) (fun s b hb => h1 s b (by simp [hb])) (fun s b hb => h2 s b (by simp [hb])) (h2 s a (by simp) hs)
theorem walkA_nodes {gs : List (List Int)} {K : Nat} : ∀ {r : Nat} {p s : List Int}, p.length + r = gs.length → s.length ≤ gs.length → walkP (grA gs) (nxA gs) K r p s = (nodesK gs K r p).foldl updA s := by
  intro r
  induction r with
  | zero =>
    intro p s hp hs
    have h0 := repP_nonneg (gs := gs) (p := p)
    simp only [walkP, nodesK]
    by_cases h1 : repP gs p = 0
    · rw [if_pos h1, List.foldl_cons, List.foldl_nil]
      by_cases h2 : s.length = gs.length
      · have hg : grA gs s p = false := by simp [grA, h2]
        rw [updA, if_neg (by omega)]
        simp [nxA, hg]
      · have hg : grA gs s p = true := by simp [grA, h1, h2]
        simp [nxA, updA, hg]
    · have hg : grA gs s p = false := by simp [grA]; intro; omega
      rw [if_neg h1, List.foldl_nil]
      simp [nxA, hg]
  | succ r ih =>
    intro p s hp hs
    have h0 := repP_nonneg (gs := gs) (p := p)
    by_cases h1 : repP gs p = 0
    · by_cases h2 : s.length = gs.length
      · rw [updA_full (fun q hq => by have := nodes_len hq; omega)]
        have hg : grA gs s p = false := by simp [grA, h2]
        simp [walkP, nxA, hg]
      · have hg : grA gs s p = true := by simp [grA, h1, h2]
        have hn : nxA gs s p = updA s p := by simp [nxA, updA, hg]
        simp only [walkP, nodesK]
        rw [if_pos hg, if_pos h1, List.foldl_cons, fold_flat, hn]
        refine fold_congr (P := fun s => s.length ≤ gs.length) (fun s c _ hs => ih (by simp; omega) hs) (fun s c _ hs => ?_) ?_
        · rw [ih (by simp; omega) hs]
          exact updA_le hs fun q hq => by have := nodes_len hq; rw [List.length_append, List.length_singleton] at this; omega
        · unfold updA; split <;> omega
    · have hg : grA gs s p = false := by simp [grA]; intro; omega
      simp [walkP, nodesK, nxA, hg, h1]
theorem gen_rep {gs : List (List Int)} {K : Nat} : ∀ {r : Nat} {p q : List Int}, q ∈ genK K r p → repP gs p ≤ repP gs q ∧ q.length = p.length + r
  | 0, p, q, h => by
    simp only [genK, List.mem_singleton] at h
    subst h
    exact ⟨Int.le_refl _, rfl⟩
  | r + 1, p, q, h => by
    obtain ⟨c, _, h⟩ := List.mem_flatMap.1 h
    obtain ⟨h1, h2⟩ := gen_rep (gs := gs) h
    rw [repP_snoc] at h1
    rw [List.length_append, List.length_singleton] at h2
    omega
theorem updA_max : ∀ {L : List (List Int)} {s b : List Int}, L.foldl updA s = b → s.length ≤ b.length ∧ (∀ q ∈ L, q.length ≤ b.length) ∧ (b = s ∨ (s.length < b.length ∧ ∃ A B, L = A ++ b :: B ∧ ∀ q ∈ A, q.length < b.length))
  | [], s, b, h => by
    rw [List.foldl_nil] at h
    subst h
    exact ⟨Nat.le_refl _, fun q hq => by (cases hq), .inl rfl⟩
  | q :: L, s, b, h => by
    rw [List.foldl_cons] at h
    obtain ⟨h1, h2, h3⟩ := updA_max h
    unfold updA at h1 h3
    by_cases hl : s.length < q.length
    · rw [if_pos hl] at h1 h3
      refine ⟨by omega, fun x hx => ?_, .inr ⟨by omega, ?_⟩⟩
      · rcases List.mem_cons.1 hx with rfl | hx
        · exact h1
        · exact h2 x hx
      · rcases h3 with rfl | ⟨h3, A, B, rfl, h4⟩
        · exact ⟨[], L, rfl, fun x hx => by (cases hx)⟩
        · refine ⟨q :: A, B, rfl, fun x hx => ?_⟩
          rcases List.mem_cons.1 hx with rfl | hx
          · exact h3
          · exact h4 x hx
    · rw [if_neg hl] at h1 h3
      refine ⟨h1, fun x hx => ?_, ?_⟩
      · rcases List.mem_cons.1 hx with rfl | hx
        · omega
        · exact h2 x hx
      · rcases h3 with rfl | ⟨h3, A, B, rfl, h4⟩
        · exact .inl rfl
        · refine .inr ⟨h3, q :: A, B, rfl, fun x hx => ?_⟩
          rcases List.mem_cons.1 hx with rfl | hx
          · omega
          · exact h4 x hx
theorem nodes_gen {gs : List (List Int)} {K : Nat} : ∀ {m r : Nat} {p : List Int}, m ≤ r → (nodesK gs K r p).filter (fun q => decide (q.length = p.length + m)) = (genK K m p).filter (fun q => decide (repP gs q = 0))
  | 0, 0, p, _ => by
    simp only [nodesK, genK]
    by_cases h : repP gs p = 0
    · simp [h]
    · simp [h]
  | 0, r + 1, p, _ => by
    simp only [nodesK, genK]
    by_cases h : repP gs p = 0
    · rw [if_pos h, List.filter_cons_of_pos (by simp), List.filter_cons_of_pos (by simpa using h), List.filter_nil]
      congr 1
      rw [List.filter_eq_nil_iff]
      intro q hq
      obtain ⟨c, _, hq⟩ := List.mem_flatMap.1 hq
      have := nodes_len hq
      rw [List.length_append, List.length_singleton] at this
      simp
      omega
    · simp [h]
  | m + 1, r + 1, p, hm => by
    by_cases h : repP gs p = 0
    · simp only [nodesK, genK]
      rw [if_pos h, List.filter_cons_of_neg (by simp), List.filter_flatMap, List.filter_flatMap]
      congr 1
      funext c
      have := nodes_gen (gs := gs) (K := K) (m := m) (r := r) (p := p ++ [(c : Int)]) (by omega)
      rw [List.length_append, List.length_singleton, show p.length + 1 + m = p.length + (m + 1) by omega] at this
      exact this
    · simp only [nodesK]
      rw [if_neg h, List.filter_nil]
      symm
      rw [List.filter_eq_nil_iff]
      intro q hq
      have h1 := (gen_rep (gs := gs) hq).1
      have h2 := repP_nonneg (gs := gs) (p := p)
      simp
      omega
theorem nodes_mono {gs : List (List Int)} {K K' : Nat} (hK : K ≤ K') : ∀ {r : Nat} {p q : List Int}, q ∈ nodesK gs K r p → q ∈ nodesK gs K' r p
  | 0, _, _, h => h
  | r + 1, p, q, h => by
    simp only [nodesK] at h ⊢
    split at h
    · rename_i h0
      rw [if_pos h0]
      rcases List.mem_cons.1 h with rfl | h
      · simp
      · obtain ⟨c, hc, h⟩ := List.mem_flatMap.1 h
        rw [List.mem_range] at hc
        exact List.mem_cons_of_mem _ (List.mem_flatMap.2 ⟨c, List.mem_range.2 (by omega), nodes_mono hK h⟩)
    · cases h
theorem nodes_mem {gs : List (List Int)} {K : Nat} : ∀ {r : Nat} {p q : List Int}, q ∈ nodesK gs K r p → (∀ x ∈ p, 0 ≤ x ∧ x < K) → ∀ x ∈ q, 0 ≤ x ∧ x < K
  | 0, p, q, h, hp => by
    simp only [nodesK] at h
    split at h
    · rw [List.mem_singleton] at h; subst h; exact hp
    · cases h
  | r + 1, p, q, h, hp => by
    simp only [nodesK] at h
    split at h
    · rcases List.mem_cons.1 h with rfl | h
      · exact hp
      · obtain ⟨c, hc, h⟩ := List.mem_flatMap.1 h
        rw [List.mem_range] at hc
        refine nodes_mem h fun x hx => ?_
        rcases List.mem_append.1 hx with hx | hx
        · exact hp x hx
        · rw [List.mem_singleton] at hx; omega
    · cases h
/-- What the longest plan is. -/
structure LongP (gs : List (List Int)) (K : Nat) (b : List Int) : Prop where
  n : b.length ≤ gs.length
  z : repP gs b = 0
  m : ∀ x ∈ b, 0 ≤ x ∧ x < K
  first : ∃ A B, genK K b.length [] = A ++ b :: B ∧ ∀ q ∈ A, repP gs q ≠ 0
  none : b.length < gs.length → ∀ q ∈ genK K (b.length + 1) [], repP gs q ≠ 0
theorem repP_nil {gs : List (List Int)} : repP gs [] = 0 := by simp [repP, repS]
theorem filter_first {α : Type} {P Q : α → Bool} : ∀ {L A B : List α} {b : α}, L = A ++ b :: B → Q b = true → (∀ q ∈ A, Q q = false) → ∃ C, L.filter Q = b :: C
  | _, A, B, b, rfl, hb, hA => by
    rw [List.filter_append, List.filter_cons_of_pos hb, List.filter_eq_nil_iff.2 (fun q hq => by rw [hA q hq]; simp)]
    exact ⟨_, rfl⟩
theorem first_filter {α : Type} {P : α → Bool} : ∀ {L C : List α} {b : α}, L.filter P = b :: C → ∃ A B, L = A ++ b :: B ∧ ∀ q ∈ A, P q = false
  | [], _, _, h => by simp at h
  | x :: L, C, b, h => by
    by_cases hx : P x = true
    · rw [List.filter_cons_of_pos hx] at h
      cases h
      exact ⟨[], L, rfl, fun q hq => by (cases hq)⟩
    · rw [List.filter_cons_of_neg hx] at h
      obtain ⟨A, B, rfl, h2⟩ := first_filter h
      refine ⟨x :: A, B, rfl, fun q hq => ?_⟩
      rcases List.mem_cons.1 hq with rfl | hq
      · simpa using hx
      · exact h2 q hq
theorem planA_ok {gs : List (List Int)} {K : Nat} : LongP gs K (planA gs K) := by
  have hw : planA gs K = (nodesK gs K gs.length []).foldl updA [] := walkA_nodes (by simp) (by simp)
  have hle : (planA gs K).length ≤ gs.length := by
    rw [hw]; exact updA_le (by simp) fun q hq => by have := nodes_len hq; simpa using this.2
  obtain ⟨_, h2, h3⟩ := updA_max hw.symm
  have hmem : planA gs K ∈ nodesK gs K gs.length [] := by
    rcases h3 with h3 | ⟨_, A, B, hA, _⟩
    · rw [h3]
      cases gs.length with
      | zero => simp only [nodesK]; rw [if_pos repP_nil]; simp
      | succ r => simp only [nodesK]; rw [if_pos repP_nil]; simp
    · rw [hA]; simp
  refine ⟨hle, nodes_rep hmem, nodes_mem hmem (fun x hx => by cases hx), ?_, fun hlt q hq hz => ?_⟩
  · rcases h3 with h3 | ⟨_, A, B, hA, hl⟩
    · rw [h3]; exact ⟨[], [], rfl, fun q hq => by (cases hq)⟩
    · have hng := nodes_gen (gs := gs) (K := K) (p := []) hle
      obtain ⟨C, hC⟩ := filter_first (P := fun _ => true) (Q := fun q => decide (q.length = ([] : List Int).length + (planA gs K).length)) hA (by simp) (fun q hq => by have := hl q hq; simp; omega)
      rw [hng] at hC
      obtain ⟨A', B', h5, h6⟩ := first_filter hC
      exact ⟨A', B', h5, fun q hq => by simpa using h6 q hq⟩
  · have hng := nodes_gen (gs := gs) (K := K) (p := []) (m := (planA gs K).length + 1) hlt
    have : q ∈ (genK K ((planA gs K).length + 1) []).filter (fun q => decide (repP gs q = 0)) := List.mem_filter.2 ⟨hq, by simpa using hz⟩
    rw [← hng] at this
    obtain ⟨h5, h6⟩ := List.mem_filter.1 this
    have := h2 q h5
    simp at h6
    omega
theorem planA_mono {gs : List (List Int)} {K K' : Nat} (h : K ≤ K') : (planA gs K).length ≤ (planA gs K').length := by
  have hw : planA gs K = (nodesK gs K gs.length []).foldl updA [] := walkA_nodes (by simp) (by simp)
  have hw' : planA gs K' = (nodesK gs K' gs.length []).foldl updA [] := walkA_nodes (by simp) (by simp)
  obtain ⟨_, h2, h3⟩ := updA_max hw.symm
  obtain ⟨_, h2', _⟩ := updA_max hw'.symm
  rcases h3 with h3 | ⟨_, A, B, hA, _⟩
  · rw [h3]; simp
  · exact h2' _ (nodes_mono h (by rw [hA]; simp))
/-- What the plan with the fewest repeats is. -/
structure FewP (gs : List (List Int)) (K : Nat) (b : List Int × Int) : Prop where
  n : b.1.length = gs.length
  z : repP gs b.1 = b.2
  lt : 0 ≤ b.2 ∧ b.2 < 108
  m : ∀ x ∈ b.1, 0 ≤ x ∧ x < K
  le : ∀ q ∈ genK K gs.length [], b.2 ≤ repP gs q
  first : ∃ A B, genK K gs.length [] = A ++ b.1 :: B ∧ ∀ q ∈ A, b.2 < repP gs q
end Go.Proofs.Ytijimplcjaeneaa

