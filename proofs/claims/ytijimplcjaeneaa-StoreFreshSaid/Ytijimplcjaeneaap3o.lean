
/- Plan, and Fewest. -/
import Derived.Test.Ytijimplcjaeneaap2o
import Derived.Test.Ytijimplcjaeneaai0o
set_option linter.unusedVariables false
set_option linter.unusedSimpArgs false
namespace Go.Proofs.Ytijimplcjaeneaa
open Go.AI
/-- The longest plan so far, as it lies in memory. -/
structure JA (H : Heap) (b1 c5 b : Nat) (sv gv : Value) (s : List Int) (q : Nat) (X : Heap) : Prop where
  l : ∃ lv, X.get c5 = some (.cells [lv] 29 1) ∧ Own 3 X lv (s.map VI) (b + 6) ∧ ∀ c, blkOf lv = some c → c ≠ q
  s : X.get b1 = some (.cells [sv, gv] 68 1)
  k : Keep H X
  n : b ≤ X.n
  q : b ≤ q
theorem JA.stay {H : Heap} {b1 c5 b q q' : Nat} {sv gv : Value} {s : List Int} {X X' : Heap} (h : JA H b1 c5 b sv gv s q X) (hHb : H.n ≤ b) (h1 : b1 < b) (h5 : c5 < b) (hn : X.n ≤ X'.n) (hf : ∀ p, p < X.n → p ≠ q → p ≠ b + 2 → p ≠ b + 3 → X'.get p = X.get p) (hq : q' = q ∨ X.n ≤ q') : JA H b1 c5 b sv gv s q' X' := by
  have n1 := h.n
  have n2 := h.q
  obtain ⟨lv, a1, a2, a3⟩ := h.l
  refine ⟨⟨lv, (hf c5 (by omega) (by omega) (by omega) (by omega)).trans a1, own_keepF a2 hn fun c hc => hf c (a2.lt hc).2 (a3 c hc) (by have := (a2.lt hc).1; omega) (by have := (a2.lt hc).1; omega), fun c hc => ?_⟩, (hf b1 (by omega) (by omega) (by omega) (by omega)).trans h.s, ⟨Nat.le_trans h.k.1 hn, fun c hc => (hf c (by have := h.k.1; omega) (by omega) (by omega) (by omega)).trans (h.k.2 c hc)⟩, by omega, by omega⟩
  have h6 := a3 c hc
  have h7 := (a2.lt hc).2
  omega
set_option maxHeartbeats 16000000 in
set_option maxRecDepth 100000 in
theorem planCb_spec [Orc] {B b1 c5 b q : Nat} {H X : Heap} {sv gv pv : Value} {vs : List Value} {gs : List (List Int)} {s p : List Int} (hBc : B ≤ c5) (hHc : H.n ≤ c5) (hc : c5 < b) (h1 : b1 < b) (h15 : b1 ≠ c5) (hg : Gri H gv vs gs) (h9 : gs.length ≤ 9)
    (hJ : JA H b1 c5 b sv gv s q X) (hp : Ints X pv p) (hq : q < X.n) (hb6 : b + 6 ≤ X.n) (hBX : B ≤ X.n) (hpl : p.length ≤ gs.length) (hrb : 0 ≤ repP gs p ∧ repP gs p < 108) :
    CallB Try.prog B 113 [pv, VI (repP gs p), .pointer (some ⟨c5, 0, none⟩), .pointer (some ⟨b1, 0, none⟩)] X (fun v X' => v = .bool (grA gs s p) ∧ JA H b1 c5 b sv gv (nxA gs s p) q X' ∧ (∀ x, (b ≤ x ∧ x < b + 6 ∨ x = q) → X'.get x = X.get x) ∧ X.n ≤ X'.n) := by
  obtain ⟨lv, hl, ho, hlq⟩ := hJ.l
  have hgx := hg.keep hJ.k
  have hlr : Ints X lv s := ho.row
  have hqb := hJ.q
  refine CV.enter callees false (Orc.hv rfl rfl) Try.func113 rfl (by kernel_rfl) (Nat.le_of_ble_eq_true rfl) hBX ?_ (Orc.hw rfl rfl)
  by_cases h0 : 0 < repP gs p
  · have e1 : grA gs s p = false := by simp [grA, h0]
    have e2 : nxA gs s p = s := by simp [nxA, e1]
    rw [e1, e2]
    repeat' first
      | refine CO.cons rfl ?_
      | refine CO.nil ?_
      | refine CV.seq ?_
      | refine CV.region callees ?_
      | refine CV.cond ?_
      | refine CV.ret ?_
      | refine CO.consG rfl ?_
      | (refine ⟨fun _ => ?_, fun _ => ?_⟩ <;> first | (exfalso; omega) | skip)
      | fail
    exact ⟨rfl, rfl, hJ, fun x _ => rfl, Nat.le_refl _⟩
  by_cases h2 : s.length = gs.length
  · have e1 : grA gs s p = false := by simp [grA, h2]
    have e2 : nxA gs s p = s := by simp [nxA, e1]
    rw [e1, e2]
    repeat' first
      | refine CO.cons rfl ?_
      | refine CO.nil ?_
      | refine CV.seq ?_
      | refine CV.region callees ?_
      | refine CV.cond ?_
      | refine CV.ret ?_
      | refine CO.consG rfl ?_
      | refine ⟨_, ints_len (by assumption), ?_⟩
      | (refine ⟨_, cell_load agN hl rfl, ?_⟩)
      | (refine ⟨_, fS fe1 (by decide), ?_⟩)
      | (refine ⟨_, cell_load agGr hJ.s rfl, ?_⟩)
      | (refine ⟨_, hgx.alen, ?_⟩)
      | (refine ⟨fun _ => ?_, fun _ => ?_⟩ <;> first | (exfalso; omega) | skip)
      | fail
    exact ⟨rfl, rfl, hJ, fun x _ => rfl, Nat.le_refl _⟩
  have e1 : grA gs s p = true := by simp [grA, h2]; omega
  rw [e1]
  by_cases h3 : s.length < p.length
  · have e2 : nxA gs s p = p := by simp [nxA, e1, h3]
    rw [e2]
    repeat' first
      | refine CO.cons rfl ?_
      | refine CO.nil ?_
      | refine CV.seq ?_
      | refine CV.region callees ?_
      | refine CV.cond ?_
      | refine CV.skip ?_
      | refine CO.consG rfl ?_
      | refine ⟨_, ints_len (by assumption), ?_⟩
      | (refine ⟨_, cell_load agN hl rfl, ?_⟩)
      | (refine ⟨_, fS fe1 (by decide), ?_⟩)
      | (refine ⟨_, cell_load agGr hJ.s rfl, ?_⟩)
      | (refine ⟨_, hgx.alen, ?_⟩)
      | (refine ⟨fun _ => ?_, fun _ => ?_⟩ <;> first | (exfalso; omega) | skip)
      | fail
    refine (clone_spec (by omega) hp (by omega)).mono ?_
    rintro w X2 ⟨hw, k2⟩
    have l2 := k2.1
    have hl2 := (k2.2 c5 (by omega)).trans hl
    have hwa : ∀ c, blkOf w = some c → X.n ≤ c := fun c hc => (hw.lt hc).1
    repeat' first
      | refine CO.cons rfl ?_
      | fail
    refine ⟨_, _, store_row (i := 0) sz26 hl2 (by show 0 < 1; decide) (Row.oneC hw.row).1, by omega, ?_⟩
    generalize hs3 : Heap.set X2 c5 _ = H3
    have hg3 : H3.get c5 = some (.cells ([w]) 29 1) := set_get hs3
    have n3 := set_n hs3
    have o3 := set_old hs3
    repeat' first
      | refine CO.cons rfl ?_
      | refine CO.nil ?_
      | refine CV.seq ?_
      | refine CV.region callees ?_
      | refine CV.ret ?_
      | fail
    refine ⟨rfl, rfl, ⟨⟨w, hg3, own_keepF (Own.lower hw hb6) (by omega) fun c hc => o3 c (by have := hwa c hc; omega), fun c hc => by have := hwa c hc; omega⟩, (o3 b1 (by omega)).trans ((k2.2 b1 (by omega)).trans hJ.s), ⟨by have := hJ.k.1; omega, fun c hc => (o3 c (by omega)).trans ((k2.2 c (by have := hJ.k.1; omega)).trans (hJ.k.2 c hc))⟩, by omega, hqb⟩, fun x hx => (o3 x (by omega)).trans (k2.2 x (by omega)), by omega⟩
  · have e2 : nxA gs s p = s := by simp [nxA, h3]
    rw [e2]
    repeat' first
      | refine CO.cons rfl ?_
      | refine CO.nil ?_
      | refine CV.seq ?_
      | refine CV.region callees ?_
      | refine CV.cond ?_
      | refine CV.skip ?_
      | refine CV.ret ?_
      | refine CO.consG rfl ?_
      | refine ⟨_, ints_len (by assumption), ?_⟩
      | (refine ⟨_, cell_load agN hl rfl, ?_⟩)
      | (refine ⟨_, fS fe1 (by decide), ?_⟩)
      | (refine ⟨_, cell_load agGr hJ.s rfl, ?_⟩)
      | (refine ⟨_, hgx.alen, ?_⟩)
      | (refine ⟨fun _ => ?_, fun _ => ?_⟩ <;> first | (exfalso; omega) | skip)
      | fail
    exact ⟨rfl, rfl, hJ, fun x _ => rfl, Nat.le_refl _⟩
/-- What Plan answers. -/
def plaXs (st : List Int) (gs : List (List Int)) : List Int := if seaE st gs = 0 then planA gs (combos st).toNat else []
set_option maxHeartbeats 16000000 in
set_option maxRecDepth 100000 in
theorem plan_spec [Orc] {B : Nat} {H : Heap} {s g : Value} {gv : List Value} {st : List Int} {gs : List (List Int)} (hB : B ≤ H.n) (hs : Ints H s st) (hg : Gri H g gv gs) (hsn : st.length < 1000000) (hgn : gs.length < 1000000) (hgg : ∀ x ∈ gs, x.length < 1000000) :
    CallB Try.prog B 55 [Sev s g] H (fun r H' => (∃ q, r = .tuple #[q, VI (seaE st gs)] ∧ Ints H' q (plaXs st gs)) ∧ Keep H H') := by
  refine CV.enter callees false (Orc.hv rfl rfl) Try.func55 rfl (by kernel_rfl) (Nat.le_of_ble_eq_true rfl) hB ?_ (Orc.hw rfl rfl)
  repeat' first
    | refine CO.cons rfl ?_
    | refine CV.seq ?_
    | refine CV.region callees ?_
    | fail
  refine ⟨(by simp only [notTuple]), ?_⟩
  rw [boxSe]
  generalize hs0 : Heap.new H _ = H0
  have hg0 := new_get hs0
  have k0 := new_keep hs0
  have n0 := new_n hs0
  obtain ⟨b0, hbn0⟩ : ∃ b, Heap.n H = b := ⟨_, rfl⟩
  rw [hbn0] at hg0 n0 ⊢
  have hs0 : Ints H0 s st := hs.keep k0
  have hgr0 := hg.keep k0
  repeat' first
    | refine CO.cons rfl ?_
    | refine CO.nil ?_
    | refine CV.seq ?_
    | refine CV.region callees ?_
    | (refine ⟨_, ldSe hg0, ?_⟩)
    | fail
  refine (checkSeason_spec (by omega) hs0 hgr0 hsn hgn hgg).mono ?_
  rintro r H1 ⟨rfl, k1⟩
  have l1 := k1.1
  have k01 := k0.trans k1
  have hS1 := (k1.2 b0 (by omega)).trans hg0
  by_cases he : seaE st gs = 0
  rotate_left
  · have e : plaXs st gs = [] := by unfold plaXs; rw [if_neg he]
    repeat' first
      | refine CO.cons rfl ?_
      | refine CO.nil ?_
      | refine CV.seq ?_
      | refine CV.region callees ?_
      | refine CV.cond ?_
      | refine CV.ret ?_
      | (refine ⟨fun _ => ?_, fun _ => ?_⟩ <;> first | (exfalso; omega) | skip)
      | fail
    exact ⟨rfl, ⟨_, rfl, .inl ⟨rfl, by rw [e]; rfl⟩⟩, k01⟩
  obtain ⟨hok, h9, _⟩ := seaE_ok he
  have hgo := gsOk_of he
  have hc := hok.all
  obtain ⟨K, hK⟩ : ∃ K : Nat, combos st = (K : Int) := ⟨(combos st).toNat, by omega⟩
  have e : plaXs st gs = planA gs K := by unfold plaXs; rw [if_pos he, hK]; rfl
  rw [he, e]
  repeat' first
    | refine CO.cons rfl ?_
    | refine CO.nil ?_
    | refine CV.seq ?_
    | refine CV.region callees ?_
    | refine CV.cond ?_
    | refine CV.skip ?_
    | (refine ⟨_, _, al26, ?_⟩)
    | (refine ⟨fun _ => ?_, fun _ => ?_⟩ <;> first | (exfalso; omega) | skip)
    | fail
  generalize hs2 : Heap.new H1 _ = H2
  have hg2 := new_get hs2
  have k2 := new_keep hs2
  have n2 := new_n hs2
  obtain ⟨b2, hbn2⟩ : ∃ b, Heap.n H1 = b := ⟨_, rfl⟩
  rw [hbn2] at hg2 n2 ⊢
  have hS2 := (k2.2 b0 (by omega)).trans hS1
  have k02 := k01.trans k2
  have l02 := k02.1
  repeat' first
    | refine CO.cons rfl ?_
    | (refine ⟨_, ldSe hS2, ?_⟩)
    | (refine ⟨(rfl : List.all _ cellLike = true), ?_⟩)
    | fail
  have ht := tryPlans_spec (B := B) (fn := 113) (K := K) (H := H2) (sv := s) (gv := g) (cap := #[.pointer (some ⟨b2, 0, none⟩), .pointer (some ⟨b0, 0, none⟩)]) (vs := gv) (st := st) (gs := gs) (s0 := []) (JA H b0 b2 H2.n s g) (grA gs) (nxA gs) rfl (by omega) hgo hok hK
    (fun X kk => ⟨⟨nilS, (kk.2 b2 (by omega)).trans hg2, .inl ⟨rfl, rfl⟩, fun c hc => by cases hc⟩, (kk.2 b0 (by omega)).trans hS2, k02.trans kk, kk.1, by omega⟩)
    (fun s' q X hJ => ⟨hs.keep hJ.k, hg.keep hJ.k⟩)
    (fun s' q q' X X' hJ hn hf hq => hJ.stay (by omega) (by omega) (by omega) hn hf hq)
    (fun s' p q pv X hJ hM hBX hpl => planCb_spec (by omega) (by omega) (by omega) (by omega) (by omega) hg h9 hJ hM.row hM.qn.2.1 hM.n hBX hpl (repP_lt hgo hpl))
  refine ht.mono ?_
  rintro v H3 ⟨⟨q, hJ⟩, l3⟩
  obtain ⟨lv, hl, ho, _⟩ := hJ.l
  repeat' first
    | refine CO.cons rfl ?_
    | refine CO.nil ?_
    | refine CV.seq ?_
    | refine CV.region callees ?_
    | refine CV.ret ?_
    | (refine ⟨_, cell_load agN hl rfl, ?_⟩)
    | fail
  exact ⟨by simp only [List.all_cons, List.all_nil, ho.notTuple]; rfl, ⟨lv, rfl, ho.row⟩, hJ.k⟩
/-- The plan with the fewest repeats so far, as it lies in memory. -/
structure JB (H : Heap) (b1 c2 c3 b : Nat) (sv gv : Value) (s : List Int × Int) (q : Nat) (X : Heap) : Prop where
  l : ∃ lv, X.get c2 = some (.cells [lv] 29 1) ∧ Own 3 X lv (s.1.map VI) (b + 6) ∧ ∀ c, blkOf lv = some c → c ≠ q
  m : X.get c3 = some (.cells [VI s.2] 3 1)
  s : X.get b1 = some (.cells [sv, gv] 68 1)
  k : Keep H X
  n : b ≤ X.n
  q : b ≤ q
theorem JB.stay {H : Heap} {b1 c2 c3 b q q' : Nat} {sv gv : Value} {s : List Int × Int} {X X' : Heap} (h : JB H b1 c2 c3 b sv gv s q X) (hHb : H.n ≤ b) (h1 : b1 < b) (h2 : c2 < b) (h3 : c3 < b) (hn : X.n ≤ X'.n) (hf : ∀ p, p < X.n → p ≠ q → p ≠ b + 2 → p ≠ b + 3 → X'.get p = X.get p) (hq : q' = q ∨ X.n ≤ q') : JB H b1 c2 c3 b sv gv s q' X' := by
  have n1 := h.n
  have n2 := h.q
  obtain ⟨lv, a1, a2, a3⟩ := h.l
  refine ⟨⟨lv, (hf c2 (by omega) (by omega) (by omega) (by omega)).trans a1, own_keepF a2 hn fun c hc => hf c (a2.lt hc).2 (a3 c hc) (by have := (a2.lt hc).1; omega) (by have := (a2.lt hc).1; omega), fun c hc => ?_⟩, (hf c3 (by omega) (by omega) (by omega) (by omega)).trans h.m, (hf b1 (by omega) (by omega) (by omega) (by omega)).trans h.s, ⟨Nat.le_trans h.k.1 hn, fun c hc => (hf c (by have := h.k.1; omega) (by omega) (by omega) (by omega)).trans (h.k.2 c hc)⟩, by omega, by omega⟩
  have h6 := a3 c hc
  have h7 := (a2.lt hc).2
  omega
end Go.Proofs.Ytijimplcjaeneaa

