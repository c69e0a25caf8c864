
/- Repeats of a plan. -/
import Derived.Test.Ytjjmnfgnlcbfhaaf3o
set_option linter.unusedVariables false
set_option linter.unusedSimpArgs false
namespace Go.Proofs.Ytjjmnfgnlcbfhaa
open Go.AI
/-- How often a guest met a combination, at the first gatherings. -/
def cntF (gs : List (List Int)) (plan : List Int) : Nat → Int → Int → Int
  | 0 => fun _ _ => 0
  | i + 1 => addF (cntF gs plan i) gs[i]! plan[i]! 1
theorem cntF_bd {gs : List (List Int)} {plan : List Int} : ∀ {i : Nat} {g c : Int}, 0 ≤ cntF gs plan i g c ∧ cntF gs plan i g c ≤ i
  | 0, _, _ => ⟨Int.le_refl _, Int.le_refl _⟩
  | i + 1, g, c => by
    have := cntF_bd (gs := gs) (plan := plan) (i := i) (g := g) (c := c)
    simp only [cntF, addF]
    split <;> omega
theorem cntF_pos {gs : List (List Int)} {plan : List Int} {i : Nat} {g c : Int} : 0 < cntF gs plan (i + 1) g c ↔ 0 < cntF gs plan i g c ∨ (c = plan[i]! ∧ g ∈ gs[i]!) := by
  have := cntF_bd (gs := gs) (plan := plan) (i := i) (g := g) (c := c)
  simp only [cntF, addF]
  by_cases h : c = plan[i]! ∧ g ∈ gs[i]!
  · rw [if_pos h]; constructor
    · intro _; exact .inr h
    · intro _; omega
  · rw [if_neg h, Int.add_zero]; constructor
    · exact .inl
    · rintro (h' | h')
      · exact h'
      · exact absurd h' h
theorem cntF_mono {gs : List (List Int)} {plan : List Int} {i j : Nat} {g c : Int} (h : i ≤ j) (hp : 0 < cntF gs plan i g c) : 0 < cntF gs plan j g c := by
  induction j with
  | zero => obtain rfl : i = 0 := by omega
            exact hp
  | succ j ih =>
    by_cases e : i = j + 1
    · rw [← e]; exact hp
    · exact cntF_pos.2 (.inl (ih (by omega)))
/-- The guests of a gathering who meet its combination again. -/
def againL (gs : List (List Int)) (plan : List Int) (i : Nat) : List Int := gs[i]!.filter fun g => decide (0 < cntF gs plan i g plan[i]!)
def minL : List Int → Int
  | [] => -1
  | x :: t => t.foldl min x
theorem minL_snoc {l : List Int} {y : Int} (h : l ≠ []) : minL (l ++ [y]) = min (minL l) y := by
  cases l with
  | nil => exact absurd rfl h
  | cons x t => simp [minL, List.foldl_append]
/-- The first repeat, and how many there are: at the first gatherings. -/
def repS (gs : List (List Int)) (plan : List Int) : Nat → Int × Int × Int
  | 0 => (-1, -1, 0)
  | i + 1 => (if (repS gs plan i).2.2 = 0 ∧ 0 < (againL gs plan i).length then (i : Int) else (repS gs plan i).1,
      if (repS gs plan i).2.2 = 0 ∧ 0 < (againL gs plan i).length then minL (againL gs plan i) else (repS gs plan i).2.1,
      (repS gs plan i).2.2 + (againL gs plan i).length)
theorem repS_bd {gs : List (List Int)} {plan : List Int} (h : ∀ i, i < gs.length → gs[i]!.length < 1000000) : ∀ {i : Nat}, i ≤ gs.length → 0 ≤ (repS gs plan i).2.2 ∧ (repS gs plan i).2.2 ≤ i * 1000000
  | 0, _ => by simp [repS]
  | i + 1, hi => by
    have h1 := repS_bd (plan := plan) h (i := i) (by omega)
    have h2 := h i (by omega)
    have h3 : (againL gs plan i).length ≤ gs[i]!.length := List.length_filter_le _ _
    simp only [repS]
    omega
def plE (m : Int) : List Int → Int
  | [] => 0
  | p :: t => bif inB p 0 m then plE m t else 7
def planE (st : List Int) (gs : List (List Int)) (plan : List Int) : Int := if seaE st gs = 0 then (if gs.length < plan.length then 8 else plE (combos st - 1) plan) else seaE st gs
theorem planE_ok {st : List Int} {gs : List (List Int)} {plan : List Int} (h : planE st gs plan = 0) : seaE st gs = 0 ∧ plan.length ≤ gs.length := by
  unfold planE at h
  by_cases h1 : seaE st gs = 0
  · rw [if_pos h1] at h
    by_cases h2 : gs.length < plan.length
    · rw [if_pos h2] at h; cases h
    · exact ⟨h1, by omega⟩
  · rw [if_neg h1] at h; exact absurd h h1
theorem guE_ok : ∀ {l pre : List Int}, guE pre l = 0 → pre.Nodup → (pre ++ l).Nodup ∧ ∀ x ∈ l, 0 ≤ x ∧ x ≤ 11
  | [], pre, _, hp => ⟨by rw [List.append_nil]; exact hp, fun _ h => by cases h⟩
  | g :: t, pre, h, hp => by
    simp only [guE] at h
    cases c : inB g 0 11 with
    | false => rw [c, cond_false] at h; cases h
    | true =>
      rw [c, cond_true] at h
      by_cases hm : g ∈ pre
      · rw [if_pos hm] at h; cases h
      · rw [if_neg hm] at h
        have hnd : (pre ++ [g]).Nodup := List.nodup_append.2 ⟨hp, by simp, fun a ha b hb => by
          rw [List.mem_singleton] at hb
          subst hb
          rintro rfl
          exact hm ha⟩
        obtain ⟨h1, h2⟩ := guE_ok h hnd
        rw [List.append_assoc] at h1
        simp only [inB, Bool.and_eq_true, decide_eq_true_eq] at c
        refine ⟨h1, fun x hx => ?_⟩
        rcases List.mem_cons.1 hx with rfl | hx
        · exact c
        · exact h2 x hx
theorem gsE_mem : ∀ {gs : List (List Int)}, gsE gs = 0 → ∀ l ∈ gs, guestsE l = 0
  | g :: t, h, l, hl => by
    simp only [gsE] at h
    by_cases c : guestsE g = 0
    · rw [if_pos c] at h
      rcases List.mem_cons.1 hl with rfl | hl
      · exact c
      · exact gsE_mem h l hl
    · rw [if_neg c] at h; exact absurd h c
structure GsOk (gs : List (List Int)) : Prop where
  n : gs.length ≤ 9
  p : ∀ i, i < gs.length → 0 < gs[i]!.length
  nd : ∀ i, i < gs.length → gs[i]!.Nodup
  r : ∀ i, i < gs.length → ∀ x ∈ gs[i]!, 0 ≤ x ∧ x ≤ 11
theorem gsOk_of {st : List Int} {gs : List (List Int)} (h : seaE st gs = 0) : GsOk gs := by
  obtain ⟨_, h1, h2⟩ := seaE_ok h
  have key : ∀ i, i < gs.length → ¬ gs[i]!.length = 0 ∧ guE [] gs[i]! = 0 := fun i hi => by
    have := gsE_mem h2 gs[i]! (by rw [getElem!_pos gs i hi]; exact List.getElem_mem _)
    unfold guestsE at this
    by_cases h0 : gs[i]!.length = 0
    · rw [if_pos h0] at this; cases this
    · rw [if_neg h0] at this; exact ⟨h0, this⟩
  exact ⟨h1, fun i hi => by have := (key i hi).1; omega, fun i hi => (guE_ok (key i hi).2 (by simp)).1, fun i hi => (guE_ok (key i hi).2 (by simp)).2⟩
set_option maxRecDepth 100000 in
theorem checkPlan_spec [Orc] {B : Nat} {H : Heap} {s g v : Value} {gv : List Value} {st plan : List Int} {gs : List (List Int)} (hB : B ≤ H.n) (hs : Ints H s st) (hg : Gri H g gv gs) (hv : Ints H v plan) (hsn : st.length < 1000000) (hgn : gs.length < 1000000) (hgg : ∀ x ∈ gs, x.length < 1000000) (hpn : plan.length < 1000000) :
    CallB Try.prog B 105 [Sev s g, v] H (fun r H' => r = VI (planE st gs plan) ∧ Keep H H') := by
  refine CV.enter callees false (Orc.hv rfl rfl) Try.func105 rfl (by kernel_rfl) (Nat.le_of_ble_eq_true rfl) hB ?_ (Orc.hw rfl rfl)
  repeat' first
    | refine CO.cons rfl ?_
    | refine CV.seq ?_
    | refine CV.region callees ?_
    | fail
  refine ⟨(by simp only [notTuple]), ?_⟩
  rw [boxSe]
  generalize hs0 : Heap.new H _ = H0
  have hg0 := new_get hs0
  have k0 := new_keep hs0
  have n0 := new_n hs0
  obtain ⟨b0, hbn0⟩ : ∃ b, Heap.n H = b := ⟨_, rfl⟩
  rw [hbn0] at hg0 n0 ⊢
  have hs0 : Ints H0 s st := hs.keep k0
  have hgr0 := hg.keep k0
  repeat' first
    | refine CO.cons rfl ?_
    | refine CO.nil ?_
    | refine CV.seq ?_
    | refine CV.region callees ?_
    | (refine ⟨_, ldSe hg0, ?_⟩)
    | fail
  refine (checkSeason_spec (by omega) hs0 hgr0 hsn hgn hgg).mono ?_
  rintro r H1 ⟨rfl, k1⟩
  have l1 := k1.1
  have k01 := k0.trans k1
  by_cases he : seaE st gs = 0
  rotate_left
  · have e : planE st gs plan = seaE st gs := by unfold planE; rw [if_neg he]
    repeat' first
      | refine CO.cons rfl ?_
      | refine CO.nil ?_
      | refine CV.seq ?_
      | refine CV.region callees ?_
      | refine CV.cond ?_
      | refine CV.ret ?_
      | (refine ⟨fun _ => ?_, fun _ => ?_⟩ <;> first | (exfalso; omega) | skip)
      | fail
    exact ⟨rfl, by rw [e], k01⟩
  obtain ⟨hok, h9, _⟩ := seaE_ok he
  have hc := hok.all
  have hS1 := (k1.2 b0 (by omega)).trans hg0
  have hgr1 := hg.keep k01
  have hv1 : Ints H1 v plan := hv.keep k01
  by_cases hlen : gs.length < plan.length
  · have e : planE st gs plan = 8 := by unfold planE; rw [if_pos he, if_pos hlen]
    repeat' first
      | refine CO.cons rfl ?_
      | refine CO.nil ?_
      | refine CV.seq ?_
      | refine CV.region callees ?_
      | refine CV.cond ?_
      | refine CV.skip ?_
      | refine CV.ret ?_
      | refine ⟨_, ints_len (by assumption), ?_⟩
      | (refine ⟨_, fS fe1 (by decide), ?_⟩)
      | (refine ⟨_, cell_load agGr hS1 rfl, ?_⟩)
      | (refine ⟨_, hgr1.alen, ?_⟩)
      | (refine ⟨fun _ => ?_, fun _ => ?_⟩ <;> first | (exfalso; omega) | skip)
      | fail
    exact ⟨rfl, by rw [e], k01⟩
  have e : planE st gs plan = plE (combos st - 1) plan := by unfold planE; rw [if_pos he, if_neg hlen]
  repeat' first
    | refine CO.cons rfl ?_
    | refine CO.nil ?_
    | refine CV.seq ?_
    | refine CV.region callees ?_
    | refine CV.cond ?_
    | refine CV.block ?_
    | refine CV.skip ?_
    | refine ⟨_, ints_len (by assumption), ?_⟩
    | (refine ⟨_, fS fe1 (by decide), ?_⟩)
    | (refine ⟨_, cell_load agGr hS1 rfl, ?_⟩)
    | (refine ⟨_, hgr1.alen, ?_⟩)
    | (refine ⟨fun _ => ?_, fun _ => ?_⟩ <;> first | (exfalso; omega) | skip)
    | fail
  refine CV.loopc ?_
  refine WCv.rounds callees false (α := Nat) (fun i => [(2, .pointer (some ⟨b0, 0, none⟩)), (19, v), (20, VI plan.length), (21, VI i)]) (fun i Hz => i ≤ plan.length ∧ plE (combos st - 1) (plan.drop i) = planE st gs plan ∧ Keep H1 Hz) (fun i => plan.length - i) (0) (by repeat' first | exact trivial | refine ⟨rfl, ?_⟩ | refine ⟨slot_int (by (try simp only [Int.toNat_natCast]); omega), ?_⟩) ?_ ?_
  · exact ⟨by omega, e.symm, Keep.refl _⟩
  rintro i Hx ⟨hi, hw, kx⟩ hBx
  have lx := kx.1
  have hvx : Ints Hx v plan := hv1.keep kx
  by_cases hi2 : i < plan.length
  · rw [dr_at hi2] at hw
    simp only [plE] at hw
    have hSx := (kx.2 b0 (by omega)).trans hS1
    have hsx : Ints Hx s st := hs.keep (k01.trans kx)
    repeat' first
      | refine CO.cons rfl ?_
      | refine CO.nil ?_
      | refine CV.seq ?_
      | refine CV.region callees ?_
      | refine CV.cond ?_
      | refine CV.block ?_
      | refine CV.skip ?_
      | refine ⟨_, ints_addr (by assumption) (by omega) (by omega), ?_⟩
      | refine ⟨_, ints_load (by assumption) (by omega) (by omega), ?_⟩
      | (refine ⟨_, ldSe hSx, ?_⟩)
      | (refine ⟨fun _ => ?_, fun _ => ?_⟩ <;> first | (exfalso; omega) | skip)
      | fail
    refine (isCombo_spec (n := plan[i]!) (by omega) hsx hok).mono ?_
    cases c1 : inB plan[i]! 0 (combos st - 1)
    · rintro r H2 ⟨rfl, k2⟩
      rw [c1, cond_false] at hw
      repeat' first
        | refine CO.cons rfl ?_
        | refine CO.nil ?_
        | refine CV.seq ?_
        | refine CV.region callees ?_
        | refine CV.cond ?_
        | refine CV.ret ?_
        | fail
      exact ⟨rfl, by rw [← hw], (k01.trans kx).trans k2⟩
    rintro r H2 ⟨rfl, k2⟩
    rw [c1, cond_true] at hw
    repeat' first
      | refine CO.cons rfl ?_
      | refine CO.nil ?_
      | refine CV.region callees ?_
      | refine CV.cond ?_
      | refine CV.skip ?_
      | refine ⟨(⟨by omega, by omega⟩ : inI64 _), ?_⟩
      | fail
    refine ⟨(i + 1), (by repeat' first | exact trivial | refine ⟨rfl, ?_⟩ | refine ⟨slot_int (by (try simp only [Int.toNat_natCast]); omega), ?_⟩), (by (try dsimp only); omega), ?_⟩
    exact ⟨by omega, hw, kx.trans k2⟩
  obtain rfl : i = plan.length := by omega
  rw [List.drop_length] at hw
  repeat' first
    | refine CO.cons rfl ?_
    | refine CO.nil ?_
    | refine CV.seq ?_
    | refine CV.region callees ?_
    | refine CV.cond ?_
    | refine CV.exit ?_
    | refine CV.ret ?_
    | (refine ⟨fun _ => ?_, fun _ => ?_⟩ <;> first | (exfalso; omega) | skip)
    | fail
  exact ⟨rfl, by rw [← hw]; rfl, k01.trans kx⟩
set_option maxRecDepth 100000 in
theorem min_spec [Orc] {B : Nat} {H : Heap} {v : Value} {l : List Int} (hB : B ≤ H.n) (hv : Ints H v l) (h0 : 0 < l.length) (hn : l.length < 1000000) :
    CallB Try.prog B 107 [v] H (fun r H' => r = VI (minL l) ∧ H' = H) := by
  refine CV.enter callees false (Orc.hv rfl rfl) Try.func107 rfl (by kernel_rfl) (Nat.le_of_ble_eq_true rfl) hB ?_ (Orc.hw rfl rfl)
  have h1 : minL (l.take 1) = l[0]! := by
    cases l with
    | nil => cases h0
    | cons x t => rfl
  have h1' : minL (l.take 1) = l[(0 : Int).toNat]! := h1
  repeat' first
    | refine CO.cons rfl ?_
    | refine CO.nil ?_
    | refine CV.seq ?_
    | refine CV.region callees ?_
    | refine CV.cond ?_
    | refine CV.block ?_
    | refine CV.skip ?_
    | refine ⟨_, ints_len (by assumption), ?_⟩
    | refine ⟨_, ints_addr (by assumption) (by omega) (by omega), ?_⟩
    | refine ⟨_, ints_load (by assumption) (by omega) (by omega), ?_⟩
    | (refine ⟨fun _ => ?_, fun _ => ?_⟩ <;> first | (exfalso; omega) | skip)
    | fail
  refine CV.loopc ?_
  refine WCv.rounds callees false (α := Nat) (fun i => [(0, v), (3, VI (minL (l.take i))), (4, VI i)]) (fun i Hz => 1 ≤ i ∧ i ≤ l.length ∧ Hz = H) (fun i => l.length - i) (1) (by repeat' first | exact trivial | refine ⟨rfl, ?_⟩ | refine ⟨slot_int (by (try simp only [Int.toNat_natCast]); omega), ?_⟩) ?_ ?_
  · exact ⟨by omega, by omega, rfl⟩
  rintro i Hx ⟨hi1, hi, rfl⟩ hBx
  by_cases hi2 : i < l.length
  · have hm : minL (l.take (i + 1)) = min (minL (l.take i)) l[i]! := by
      rw [tk_at hi2]
      exact minL_snoc (fun h => by have := congrArg List.length h; rw [List.length_take, List.length_nil] at this; omega)
    have hm' : minL (l.take (i + 1)) = min (minL (l.take i)) l[(i : Int).toNat]! := hm
    repeat' first
      | refine CO.cons rfl ?_
      | refine CO.nil ?_
      | refine CV.seq ?_
      | refine CV.region callees ?_
      | refine CV.cond ?_
      | refine CV.block ?_
      | refine CV.skip ?_
      | refine ⟨_, ints_len (by assumption), ?_⟩
      | refine ⟨_, ints_addr (by assumption) (by omega) (by omega), ?_⟩
      | refine ⟨_, ints_load (by assumption) (by omega) (by omega), ?_⟩
      | refine ⟨(⟨by omega, by omega⟩ : inI64 _), ?_⟩
      | refine ⟨_, fun tm ha => step1_min rfl (ev_tmp ha rfl) (ev_tmp ha rfl), ?_⟩
      | (refine ⟨fun _ => ?_, fun _ => ?_⟩ <;> first | (exfalso; omega) | skip)
      | fail
    refine ⟨(i + 1), (by repeat' first | exact trivial | refine ⟨rfl, ?_⟩ | refine ⟨slot_int (by (try simp only [Int.toNat_natCast]); omega), ?_⟩), (by (try dsimp only); omega), ?_⟩
    exact ⟨by omega, by omega, rfl⟩
  obtain rfl : i = l.length := by omega
  rw [List.take_length]
  repeat' first
    | refine CO.cons rfl ?_
    | refine CO.nil ?_
    | refine CV.seq ?_
    | refine CV.region callees ?_
    | refine CV.cond ?_
    | refine CV.exit ?_
    | refine CV.ret ?_
    | refine ⟨_, ints_len (by assumption), ?_⟩
    | (refine ⟨fun _ => ?_, fun _ => ?_⟩ <;> first | (exfalso; omega) | skip)
    | fail
  exact ⟨rfl, rfl, rfl⟩
/-- What Repeats answers. -/
def repV (st : List Int) (gs : List (List Int)) (plan : List Int) : Value :=
  if planE st gs plan = 0 then .tuple #[VI (repS gs plan plan.length).1, VI (repS gs plan plan.length).2.1, VI (repS gs plan plan.length).2.2, VI 0] else .tuple #[VI 0, VI 0, VI 0, VI (planE st gs plan)]
set_option maxHeartbeats 16000000 in
set_option maxRecDepth 100000 in
theorem repeats_spec [Orc] {B : Nat} {H : Heap} {s g v : Value} {gv : List Value} {st plan : List Int} {gs : List (List Int)} (hB : B ≤ H.n) (hs : Ints H s st) (hg : Gri H g gv gs) (hv : Ints H v plan) (hsn : st.length < 1000000) (hgn : gs.length < 1000000) (hgg : ∀ x ∈ gs, x.length < 1000000) (hpn : plan.length < 1000000) :
    CallB Try.prog B 50 [Sev s g, v] H (fun r H' => r = repV st gs plan ∧ Keep H H') := by
  refine CV.enter callees false (Orc.hv rfl rfl) Try.func50 rfl (by kernel_rfl) (Nat.le_of_ble_eq_true rfl) hB ?_ (Orc.hw rfl rfl)
  repeat' first
    | refine CO.cons rfl ?_
    | refine CV.seq ?_
    | refine CV.region callees ?_
    | fail
  refine ⟨(by simp only [notTuple]), ?_⟩
  rw [boxSe]
  generalize hs0 : Heap.new H _ = H0
  have hg0 := new_get hs0
  have k0 := new_keep hs0
  have n0 := new_n hs0
  obtain ⟨b0, hbn0⟩ : ∃ b, Heap.n H = b := ⟨_, rfl⟩
  rw [hbn0] at hg0 n0 ⊢
  have hs0 : Ints H0 s st := hs.keep k0
  have hgr0 := hg.keep k0
  have hv0 : Ints H0 v plan := hv.keep k0
  repeat' first
    | refine CO.cons rfl ?_
    | refine CO.nil ?_
    | refine CV.seq ?_
    | refine CV.region callees ?_
    | (refine ⟨_, ldSe hg0, ?_⟩)
    | fail
  refine (checkPlan_spec (by omega) hs0 hgr0 hv0 hsn hgn hgg hpn).mono ?_
  rintro r H1 ⟨rfl, k1⟩
  have l1 := k1.1
  have k01 := k0.trans k1
  by_cases he : planE st gs plan = 0
  rotate_left
  · have e : repV st gs plan = .tuple #[VI 0, VI 0, VI 0, VI (planE st gs plan)] := by unfold repV; rw [if_neg he]
    repeat' first
      | refine CO.cons rfl ?_
      | refine CO.nil ?_
      | refine CV.seq ?_
      | refine CV.region callees ?_
      | refine CV.cond ?_
      | refine CV.ret ?_
      | (refine ⟨fun _ => ?_, fun _ => ?_⟩ <;> first | (exfalso; omega) | skip)
      | fail
    exact ⟨rfl, by rw [e], k01⟩
  obtain ⟨hse, hlen⟩ := planE_ok he
  have hgo := gsOk_of hse
  have hglen : ∀ i, i < gs.length → gs[i]!.length < 1000000 := fun i hi => hgg _ (by rw [getElem!_pos gs i hi]; exact List.getElem_mem _)
  have e : repV st gs plan = .tuple #[VI (repS gs plan plan.length).1, VI (repS gs plan plan.length).2.1, VI (repS gs plan plan.length).2.2, VI 0] := by unfold repV; rw [if_pos he]
  have hS1 := (k1.2 b0 (by omega)).trans hg0
  repeat' first
    | refine CO.cons rfl ?_
    | refine CO.nil ?_
    | refine CV.seq ?_
    | refine CV.region callees ?_
    | refine CV.cond ?_
    | refine CV.skip ?_
    | (refine ⟨fun _ => ?_, fun _ => ?_⟩ <;> first | (exfalso; omega) | skip)
    | fail
  generalize hs2 : Heap.new H1 (.map []) = H2
  have hg2 := new_get hs2
  have k2 := new_keep hs2
  have n2 := new_n hs2
  obtain ⟨r, hr2⟩ : ∃ r, H1.n = r := ⟨_, rfl⟩
  rw [hr2] at hg2 n2 ⊢
  have hM2 : Meet H2 r (cntF gs plan 0) := ⟨fun _ => 0, [], hg2, by simp, fun g c => by simp [cntM, cntF]⟩
  have hS2 := (k2.2 b0 (by omega)).trans hS1
  have k02 := k01.trans k2
  have l2 := k2.1
  have hgr2 := hg.keep k02
  have hv2 : Ints H2 v plan := hv.keep k02
  repeat' first
    | refine CO.cons rfl ?_
    | refine CO.nil ?_
    | refine CV.block ?_
    | refine ⟨_, ints_len (by assumption), ?_⟩
    | fail
  refine CV.loopc ?_
  refine WCv.rounds callees false (α := Nat) (fun i => [(2, .pointer (some ⟨b0, 0, none⟩)), (4, VI (repS gs plan i).1), (5, VI (repS gs plan i).2.1), (6, VI (repS gs plan i).2.2), (9, .map (some r)), (21, v), (22, VI plan.length), (23, VI i)]) (fun i Hz => i ≤ plan.length ∧ Meet Hz r (cntF gs plan i) ∧ KeepX r H2 Hz) (fun i => plan.length - i) (0) (by repeat' first | exact trivial | refine ⟨rfl, ?_⟩ | refine ⟨slot_int (by (try simp only [Int.toNat_natCast]); omega), ?_⟩) ?_ ?_
  · exact ⟨by omega, hM2, KeepX.refl _ _⟩
  rintro i Hx ⟨hi, hM, kx⟩ hBx
  have lx := kx.1
  have hvx : Ints Hx v plan := Row.keepM hv2 kx hg2
  by_cases hi2 : i < plan.length
  · have hgrx := hgr2.keepM kx hg2
    have hSx := (kx.2 b0 (by omega) (by omega)).trans hS2
    have hbd := repS_bd (plan := plan) hglen (i := i) (by omega)
    have hig : i < gs.length := by omega
    have h9 := hgo.n
    have had := hgrx.addr hig
    have hld := hgrx.load hig
    have hal : (againL gs plan i).length ≤ gs[i]!.length := List.length_filter_le _ _
    have hgl := hglen i hig
    repeat' first
      | refine CO.cons rfl ?_
      | refine CO.nil ?_
      | refine CV.seq ?_
      | refine CV.region callees ?_
      | refine CV.cond ?_
      | refine CV.block ?_
      | refine CV.skip ?_
      | refine ⟨_, ints_addr (by assumption) (by omega) (by omega), ?_⟩
      | refine ⟨_, ints_load (by assumption) (by omega) (by omega), ?_⟩
      | (refine ⟨_, fS fe1 (by decide), ?_⟩)
      | (refine ⟨_, cell_load agGr hSx rfl, ?_⟩)
      | (refine ⟨_, had, ?_⟩)
      | (refine ⟨_, hld, ?_⟩)
      | (refine ⟨fun _ => ?_, fun _ => ?_⟩ <;> first | (exfalso; omega) | skip)
      | fail
    refine (again_spec (c := plan[i]!) (by omega) (by omega) hM (hgrx.ints i hig) (hglen i hig)).mono ?_
    rintro q H3 ⟨hq, k3⟩
    have l3 := k3.1
    have hq' : Ints H3 q (againL gs plan i) := hq.row
    have hM3 : Meet H3 r (cntF gs plan i) := by
      obtain ⟨W, M, h1, h2⟩ := hM
      exact ⟨W, M, (k3.2 r (by omega)).trans h1, h2⟩
    have hg3 := (hgrx.keep k3).ints i hig
    by_cases hz : (repS gs plan i).2.2 = 0 ∧ 0 < (againL gs plan i).length
    · obtain ⟨hz1, hz2⟩ := hz
      repeat' first
        | refine CO.cons rfl ?_
        | refine CO.nil ?_
        | refine CV.seq ?_
        | refine CV.region callees ?_
        | refine CV.cond ?_
        | refine CO.consG rfl ?_
        | refine ⟨_, ints_len (by assumption), ?_⟩
        | (refine ⟨fun _ => ?_, fun _ => ?_⟩ <;> first | (exfalso; omega) | skip)
        | fail
      refine (min_spec (by omega) hq' hz2 (by omega)).mono ?_
      rintro r4 H4 ⟨rfl, rfl⟩
      repeat' first
        | refine CO.cons rfl ?_
        | refine CO.nil ?_
        | refine CV.seq ?_
        | refine CV.region callees ?_
        | refine ⟨_, ints_len (by assumption), ?_⟩
        | refine ⟨(⟨by omega, by omega⟩ : inI64 _), ?_⟩
        | fail
      refine (add_spec (c := plan[i]!) (t := 1) (by omega) (by omega) hM3 hg3 (hglen i hig) (hgo.nd i hig) (fun g d => by have := cntF_bd (gs := gs) (plan := plan) (i := i) (g := g) (c := d); omega) (by omega)).mono ?_
      rintro r5 H5 ⟨hM5, k5⟩
      have e1 : (repS gs plan (i + 1)).1 = (i : Int) := by simp only [repS]; rw [if_pos ⟨hz1, hz2⟩]
      have e2 : (repS gs plan (i + 1)).2.1 = minL (againL gs plan i) := by simp only [repS]; rw [if_pos ⟨hz1, hz2⟩]
      have e3 : (repS gs plan (i + 1)).2.2 = (repS gs plan i).2.2 + (againL gs plan i).length := rfl
      repeat' first
        | refine CO.cons rfl ?_
        | refine CO.nil ?_
        | refine CV.region callees ?_
        | refine ⟨(⟨by omega, by omega⟩ : inI64 _), ?_⟩
        | fail
      refine ⟨(i + 1), (by repeat' first | exact trivial | refine ⟨rfl, ?_⟩ | refine ⟨slot_int (by (try simp only [Int.toNat_natCast]); omega), ?_⟩), (by (try dsimp only); omega), ?_⟩
      exact ⟨by omega, hM5, (kx.trans ⟨k3.1, fun p hp _ => k3.2 p hp⟩).trans k5⟩
    · have e1 : (repS gs plan (i + 1)).1 = (repS gs plan i).1 := by simp only [repS]; rw [if_neg hz]
      have e2 : (repS gs plan (i + 1)).2.1 = (repS gs plan i).2.1 := by simp only [repS]; rw [if_neg hz]
      have e3 : (repS gs plan (i + 1)).2.2 = (repS gs plan i).2.2 + (againL gs plan i).length := rfl
      by_cases hz1 : (repS gs plan i).2.2 = 0
      · have hz2 : ¬ 0 < (againL gs plan i).length := fun h => hz ⟨hz1, h⟩
        repeat' first
          | refine CO.cons rfl ?_
          | refine CO.nil ?_
          | refine CV.seq ?_
          | refine CV.region callees ?_
          | refine CV.cond ?_
          | refine CV.skip ?_
          | refine CO.consG rfl ?_
          | refine ⟨_, ints_len (by assumption), ?_⟩
          | refine ⟨(⟨by omega, by omega⟩ : inI64 _), ?_⟩
          | (refine ⟨fun _ => ?_, fun _ => ?_⟩ <;> first | (exfalso; omega) | skip)
          | fail
        refine (add_spec (c := plan[i]!) (t := 1) (by omega) (by omega) hM3 hg3 (hglen i hig) (hgo.nd i hig) (fun g d => by have := cntF_bd (gs := gs) (plan := plan) (i := i) (g := g) (c := d); omega) (by omega)).mono ?_
        rintro r5 H5 ⟨hM5, k5⟩
        repeat' first
          | refine CO.cons rfl ?_
          | refine CO.nil ?_
          | refine CV.region callees ?_
          | refine ⟨(⟨by omega, by omega⟩ : inI64 _), ?_⟩
          | fail
        refine ⟨(i + 1), (by repeat' first | exact trivial | refine ⟨rfl, ?_⟩ | refine ⟨slot_int (by (try simp only [Int.toNat_natCast]); omega), ?_⟩), (by (try dsimp only); omega), ?_⟩
        exact ⟨by omega, hM5, (kx.trans ⟨k3.1, fun p hp _ => k3.2 p hp⟩).trans k5⟩
      · repeat' first
          | refine CO.cons rfl ?_
          | refine CO.nil ?_
          | refine CV.seq ?_
          | refine CV.region callees ?_
          | refine CV.cond ?_
          | refine CV.skip ?_
          | refine CO.consG rfl ?_
          | refine ⟨_, ints_len (by assumption), ?_⟩
          | refine ⟨(⟨by omega, by omega⟩ : inI64 _), ?_⟩
          | (refine ⟨fun _ => ?_, fun _ => ?_⟩ <;> first | (exfalso; omega) | skip)
          | fail
        refine (add_spec (c := plan[i]!) (t := 1) (by omega) (by omega) hM3 hg3 (hglen i hig) (hgo.nd i hig) (fun g d => by have := cntF_bd (gs := gs) (plan := plan) (i := i) (g := g) (c := d); omega) (by omega)).mono ?_
        rintro r5 H5 ⟨hM5, k5⟩
        repeat' first
          | refine CO.cons rfl ?_
          | refine CO.nil ?_
          | refine CV.region callees ?_
          | refine ⟨(⟨by omega, by omega⟩ : inI64 _), ?_⟩
          | fail
        refine ⟨(i + 1), (by repeat' first | exact trivial | refine ⟨rfl, ?_⟩ | refine ⟨slot_int (by (try simp only [Int.toNat_natCast]); omega), ?_⟩), (by (try dsimp only); omega), ?_⟩
        exact ⟨by omega, hM5, (kx.trans ⟨k3.1, fun p hp _ => k3.2 p hp⟩).trans k5⟩
  obtain rfl : i = plan.length := by omega
  repeat' first
    | refine CO.cons rfl ?_
    | refine CO.nil ?_
    | refine CV.seq ?_
    | refine CV.region callees ?_
    | refine CV.cond ?_
    | refine CV.exit ?_
    | refine CV.ret ?_
    | (refine ⟨fun _ => ?_, fun _ => ?_⟩ <;> first | (exfalso; omega) | skip)
    | fail
  have l01 := k01.1
  have l02 := k02.1
  exact ⟨rfl, e.symm, Nat.le_trans k02.1 lx, fun p hp => (kx.2 p (by omega) (by omega)).trans (k02.2 p hp)⟩
end Go.Proofs.Ytjjmnfgnlcbfhaa
