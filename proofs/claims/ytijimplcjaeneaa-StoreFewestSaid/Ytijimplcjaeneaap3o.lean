
/- Plan, and Fewest. -/
import Derived.Test.Ytijimplcjaeneaap2o
import Derived.Test.Ytijimplcjaeneaai0o
set_option linter.unusedVariables false
set_option linter.unusedSimpArgs false
namespace Go.Proofs.Ytijimplcjaeneaa
open Go.AI
/-- The longest plan so far, as it lies in memory. -/
structure JA (H : Heap) (b1 c5 b : Nat) (sv gv : Value) (s : List Int) (q : Nat) (X : Heap) : Prop where
  l : ∃ lv, X.get c5 = some (.cells [lv] 29 1) ∧ Own 3 X lv (s.map VI) (b + 6) ∧ ∀ c, blkOf lv = some c → c ≠ q
  s : X.get b1 = some (.cells [sv, gv] 68 1)
  k : Keep H X
  n : b ≤ X.n
  q : b ≤ q
theorem JA.stay {H : Heap} {b1 c5 b q q' : Nat} {sv gv : Value} {s : List Int} {X X' : Heap} (h : JA H b1 c5 b sv gv s q X) (hHb : H.n ≤ b) (h1 : b1 < b) (h5 : c5 < b) (hn : X.n ≤ X'.n) (hf : ∀ p, p < X.n → p ≠ q → p ≠ b + 2 → p ≠ b + 3 → X'.get p = X.get p) (hq : q' = q ∨ X.n ≤ q') : JA H b1 c5 b sv gv s q' X' := by
  have n1 := h.n
  have n2 := h.q
  obtain ⟨lv, a1, a2, a3⟩ := h.l
  refine ⟨⟨lv, (hf c5 (by omega) (by omega) (by omega) (by omega)).trans a1, own_keepF a2 hn fun c hc => hf c (a2.lt hc).2 (a3 c hc) (by have := (a2.lt hc).1; omega) (by have := (a2.lt hc).1; omega), fun c hc => ?_⟩, (hf b1 (by omega) (by omega) (by omega) (by omega)).trans h.s, ⟨Nat.le_trans h.k.1 hn, fun c hc => (hf c (by have := h.k.1; omega) (by omega) (by omega) (by omega)).trans (h.k.2 c hc)⟩, by omega, by omega⟩
  have h6 := a3 c hc
  have h7 := (a2.lt hc).2
  omega
set_option maxHeartbeats 16000000 in
set_option maxRecDepth 100000 in
theorem planCb_spec [Orc] {B b1 c5 b q : Nat} {H X : Heap} {sv gv pv : Value} {vs : List Value} {gs : List (List Int)} {s p : List Int} (hBc : B ≤ c5) (hHc : H.n ≤ c5) (hc : c5 < b) (h1 : b1 < b) (h15 : b1 ≠ c5) (hg : Gri H gv vs gs) (h9 : gs.length ≤ 9)
    (hJ : JA H b1 c5 b sv gv s q X) (hp : Ints X pv p) (hq : q < X.n) (hb6 : b + 6 ≤ X.n) (hBX : B ≤ X.n) (hpl : p.length ≤ gs.length) (hrb : 0 ≤ repP gs p ∧ repP gs p < 108) :
    CallB Try.prog B 113 [pv, VI (repP gs p), .pointer (some ⟨c5, 0, none⟩), .pointer (some ⟨b1, 0, none⟩)] X (fun v X' => v = .bool (grA gs s p) ∧ JA H b1 c5 b sv gv (nxA gs s p) q X' ∧ (∀ x, (b ≤ x ∧ x < b + 6 ∨ x = q) → X'.get x = X.get x) ∧ X.n ≤ X'.n) := by
  obtain ⟨lv, hl, ho, hlq⟩ := hJ.l
  have hgx := hg.keep hJ.k
  have hlr : Ints X lv s := ho.row
  have hqb := hJ.q
  refine CV.enter callees false (Orc.hv rfl rfl) Try.func113 rfl (by kernel_rfl) (Nat.le_of_ble_eq_true rfl) hBX ?_ (Orc.hw rfl rfl)
  by_cases h0 : 0 < repP gs p
  · have e1 : grA gs s p = false := by simp [grA, h0]
    have e2 : nxA gs s p = s := by simp [nxA, e1]
    rw [e1, e2]
    repeat' first
      | refine CO.cons rfl ?_
      | refine CO.nil ?_
      | refine CV.seq ?_
      | refine CV.region callees ?_
      | refine CV.cond ?_
      | refine CV.ret ?_
      | refine CO.consG rfl ?_
      | (refine ⟨fun _ => ?_, fun _ => ?_⟩ <;> first | (exfalso; omega) | skip)
      | fail
    exact ⟨rfl, rfl, hJ, fun x _ => rfl, Nat.le_refl _⟩
  by_cases h2 : s.length = gs.length
  · have e1 : grA gs s p = false := by simp [grA, h2]
    have e2 : nxA gs s p = s := by simp [nxA, e1]
    rw [e1, e2]
    repeat' first
      | refine CO.cons rfl ?_
      | refine CO.nil ?_
      | refine CV.seq ?_
      | refine CV.region callees ?_
      | refine CV.cond ?_
      | refine CV.ret ?_
      | refine CO.consG rfl ?_
      | refine ⟨_, ints_len (by assumption), ?_⟩
      | (refine ⟨_, cell_load agN hl rfl, ?_⟩)
      | (refine ⟨_, fS fe1 (by decide), ?_⟩)
      | (refine ⟨_, cell_load agGr hJ.s rfl, ?_⟩)
      | (refine ⟨_, hgx.alen, ?_⟩)
      | (refine ⟨fun _ => ?_, fun _ => ?_⟩ <;> first | (exfalso; omega) | skip)
      | fail
    exact ⟨rfl, rfl, hJ, fun x _ => rfl, Nat.le_refl _⟩
  have e1 : grA gs s p = true := by simp [grA, h2]; omega
  rw [e1]
  by_cases h3 : s.length < p.length
  · have e2 : nxA gs s p = p := by simp [nxA, e1, h3]
    rw [e2]
    repeat' first
      | refine CO.cons rfl ?_
      | refine CO.nil ?_
      | refine CV.seq ?_
      | refine CV.region callees ?_
      | refine CV.cond ?_
      | refine CV.skip ?_
      | refine CO.consG rfl ?_
      | refine ⟨_, ints_len (by assumption), ?_⟩
      | (refine ⟨_, cell_load agN hl rfl, ?_⟩)
      | (refine ⟨_, fS fe1 (by decide), ?_⟩)
      | (refine ⟨_, cell_load agGr hJ.s rfl, ?_⟩)
      | (refine ⟨_, hgx.alen, ?_⟩)
      | (refine ⟨fun _ => ?_, fun _ => ?_⟩ <;> first | (exfalso; omega) | skip)
      | fail
    refine (clone_spec (by omega) hp (by omega)).mono ?_
    rintro w X2 ⟨hw, k2⟩
    have l2 := k2.1
    have hl2 := (k2.2 c5 (by omega)).trans hl
    have hwa : ∀ c, blkOf w = some c → X.n ≤ c := fun c hc => (hw.lt hc).1
    repeat' first
      | refine CO.cons rfl ?_
      | fail
    refine ⟨_, _, store_row (i := 0) sz26 hl2 (by show 0 < 1; decide) (Row.oneC hw.row).1, by omega, ?_⟩
    generalize hs3 : Heap.set X2 c5 _ = H3
    have hg3 : H3.get c5 = some (.cells ([w]) 29 1) := set_get hs3
    have n3 := set_n hs3
    have o3 := set_old hs3
    repeat' first
      | refine CO.cons rfl ?_
      | refine CO.nil ?_
      | refine CV.seq ?_
      | refine CV.region callees ?_
      | refine CV.ret ?_
      | fail
    refine ⟨rfl, rfl, ⟨⟨w, hg3, own_keepF (Own.lower hw hb6) (by omega) fun c hc => o3 c (by have := hwa c hc; omega), fun c hc => by have := hwa c hc; omega⟩, (o3 b1 (by omega)).trans ((k2.2 b1 (by omega)).trans hJ.s), ⟨by have := hJ.k.1; omega, fun c hc => (o3 c (by omega)).trans ((k2.2 c (by have := hJ.k.1; omega)).trans (hJ.k.2 c hc))⟩, by omega, hqb⟩, fun x hx => (o3 x (by omega)).trans (k2.2 x (by omega)), by omega⟩
  · have e2 : nxA gs s p = s := by simp [nxA, h3]
    rw [e2]
    repeat' first
      | refine CO.cons rfl ?_
      | refine CO.nil ?_
      | refine CV.seq ?_
      | refine CV.region callees ?_
      | refine CV.cond ?_
      | refine CV.skip ?_
      | refine CV.ret ?_
      | refine CO.consG rfl ?_
      | refine ⟨_, ints_len (by assumption), ?_⟩
      | (refine ⟨_, cell_load agN hl rfl, ?_⟩)
      | (refine ⟨_, fS fe1 (by decide), ?_⟩)
      | (refine ⟨_, cell_load agGr hJ.s rfl, ?_⟩)
      | (refine ⟨_, hgx.alen, ?_⟩)
      | (refine ⟨fun _ => ?_, fun _ => ?_⟩ <;> first | (exfalso; omega) | skip)
      | fail
    exact ⟨rfl, rfl, hJ, fun x _ => rfl, Nat.le_refl _⟩
/-- What Plan answers. -/
def plaXs (st : List Int) (gs : List (List Int)) : List Int := if seaE st gs = 0 then planA gs (combos st).toNat else []
set_option maxHeartbeats 16000000 in
set_option maxRecDepth 100000 in
theorem plan_spec [Orc] {B : Nat} {H : Heap} {s g : Value} {gv : List Value} {st : List Int} {gs : List (List Int)} (hB : B ≤ H.n) (hs : Ints H s st) (hg : Gri H g gv gs) (hsn : st.length < 1000000) (hgn : gs.length < 1000000) (hgg : ∀ x ∈ gs, x.length < 1000000) :
    CallB Try.prog B 55 [Sev s g] H (fun r H' => (∃ q, r = .tuple #[q, VI (seaE st gs)] ∧ Ints H' q (plaXs st gs)) ∧ Keep H H') := by
  refine CV.enter callees false (Orc.hv rfl rfl) Try.func55 rfl (by kernel_rfl) (Nat.le_of_ble_eq_true rfl) hB ?_ (Orc.hw rfl rfl)
  repeat' first
    | refine CO.cons rfl ?_
    | refine CV.seq ?_
    | refine CV.region callees ?_
    | fail
  refine ⟨(by simp only [notTuple]), ?_⟩
  rw [boxSe]
  generalize hs0 : Heap.new H _ = H0
  have hg0 := new_get hs0
  have k0 := new_keep hs0
  have n0 := new_n hs0
  obtain ⟨b0, hbn0⟩ : ∃ b, Heap.n H = b := ⟨_, rfl⟩
  rw [hbn0] at hg0 n0 ⊢
  have hs0 : Ints H0 s st := hs.keep k0
  have hgr0 := hg.keep k0
  repeat' first
    | refine CO.cons rfl ?_
    | refine CO.nil ?_
    | refine CV.seq ?_
    | refine CV.region callees ?_
    | (refine ⟨_, ldSe hg0, ?_⟩)
    | fail
  refine (checkSeason_spec (by omega) hs0 hgr0 hsn hgn hgg).mono ?_
  rintro r H1 ⟨rfl, k1⟩
  have l1 := k1.1
  have k01 := k0.trans k1
  have hS1 := (k1.2 b0 (by omega)).trans hg0
  by_cases he : seaE st gs = 0
  rotate_left
  · have e : plaXs st gs = [] := by unfold plaXs; rw [if_neg he]
    repeat' first
      | refine CO.cons rfl ?_
      | refine CO.nil ?_
      | refine CV.seq ?_
      | refine CV.region callees ?_
      | refine CV.cond ?_
      | refine CV.ret ?_
      | (refine ⟨fun _ => ?_, fun _ => ?_⟩ <;> first | (exfalso; omega) | skip)
      | fail
    exact ⟨rfl, ⟨_, rfl, .inl ⟨rfl, by rw [e]; rfl⟩⟩, k01⟩
  obtain ⟨hok, h9, _⟩ := seaE_ok he
  have hgo := gsOk_of he
  have hc := hok.all
  obtain ⟨K, hK⟩ : ∃ K : Nat, combos st = (K : Int) := ⟨(combos st).toNat, by omega⟩
  have e : plaXs st gs = planA gs K := by unfold plaXs; rw [if_pos he, hK]; rfl
  rw [he, e]
  repeat' first
    | refine CO.cons rfl ?_
    | refine CO.nil ?_
    | refine CV.seq ?_
    | refine CV.region callees ?_
    | refine CV.cond ?_
    | refine CV.skip ?_
    | (refine ⟨_, _, al26, ?_⟩)
    | (refine ⟨fun _ => ?_, fun _ => ?_⟩ <;> first | (exfalso; omega) | skip)
    | fail
  generalize hs2 : Heap.new H1 _ = H2
  have hg2 := new_get hs2
  have k2 := new_keep hs2
  have n2 := new_n hs2
  obtain ⟨b2, hbn2⟩ : ∃ b, Heap.n H1 = b := ⟨_, rfl⟩
  rw [hbn2] at hg2 n2 ⊢
  have hS2 := (k2.2 b0 (by omega)).trans hS1
  have k02 := k01.trans k2
  have l02 := k02.1
  repeat' first
    | refine CO.cons rfl ?_
    | (refine ⟨_, ldSe hS2, ?_⟩)
    | (refine ⟨(rfl : List.all _ cellLike = true), ?_⟩)
    | fail
  have ht := tryPlans_spec (B := B) (fn := 113) (K := K) (H := H2) (sv := s) (gv := g) (cap := #[.pointer (some ⟨b2, 0, none⟩), .pointer (some ⟨b0, 0, none⟩)]) (vs := gv) (st := st) (gs := gs) (s0 := []) (JA H b0 b2 H2.n s g) (grA gs) (nxA gs) rfl (by omega) hgo hok hK
    (fun X kk => ⟨⟨nilS, (kk.2 b2 (by omega)).trans hg2, .inl ⟨rfl, rfl⟩, fun c hc => by cases hc⟩, (kk.2 b0 (by omega)).trans hS2, k02.trans kk, kk.1, by omega⟩)
    (fun s' q X hJ => ⟨hs.keep hJ.k, hg.keep hJ.k⟩)
    (fun s' q q' X X' hJ hn hf hq => hJ.stay (by omega) (by omega) (by omega) hn hf hq)
    (fun s' p q pv X hJ hM hBX hpl => planCb_spec (by omega) (by omega) (by omega) (by omega) (by omega) hg h9 hJ hM.row hM.qn.2.1 hM.n hBX hpl (repP_lt hgo hpl))
  refine ht.mono ?_
  rintro v H3 ⟨⟨q, hJ⟩, l3⟩
  obtain ⟨lv, hl, ho, _⟩ := hJ.l
  repeat' first
    | refine CO.cons rfl ?_
    | refine CO.nil ?_
    | refine CV.seq ?_
    | refine CV.region callees ?_
    | refine CV.ret ?_
    | (refine ⟨_, cell_load agN hl rfl, ?_⟩)
    | fail
  exact ⟨by simp only [List.all_cons, List.all_nil, ho.notTuple]; rfl, ⟨lv, rfl, ho.row⟩, hJ.k⟩
/-- The plan with the fewest repeats so far, as it lies in memory. -/
structure JB (H : Heap) (b1 c2 c3 b : Nat) (sv gv : Value) (s : List Int × Int) (q : Nat) (X : Heap) : Prop where
  l : ∃ lv, X.get c2 = some (.cells [lv] 29 1) ∧ Own 3 X lv (s.1.map VI) (b + 6) ∧ ∀ c, blkOf lv = some c → c ≠ q
  m : X.get c3 = some (.cells [VI s.2] 3 1)
  s : X.get b1 = some (.cells [sv, gv] 68 1)
  k : Keep H X
  n : b ≤ X.n
  q : b ≤ q
theorem JB.stay {H : Heap} {b1 c2 c3 b q q' : Nat} {sv gv : Value} {s : List Int × Int} {X X' : Heap} (h : JB H b1 c2 c3 b sv gv s q X) (hHb : H.n ≤ b) (h1 : b1 < b) (h2 : c2 < b) (h3 : c3 < b) (hn : X.n ≤ X'.n) (hf : ∀ p, p < X.n → p ≠ q → p ≠ b + 2 → p ≠ b + 3 → X'.get p = X.get p) (hq : q' = q ∨ X.n ≤ q') : JB H b1 c2 c3 b sv gv s q' X' := by
  have n1 := h.n
  have n2 := h.q
  obtain ⟨lv, a1, a2, a3⟩ := h.l
  refine ⟨⟨lv, (hf c2 (by omega) (by omega) (by omega) (by omega)).trans a1, own_keepF a2 hn fun c hc => hf c (a2.lt hc).2 (a3 c hc) (by have := (a2.lt hc).1; omega) (by have := (a2.lt hc).1; omega), fun c hc => ?_⟩, (hf c3 (by omega) (by omega) (by omega) (by omega)).trans h.m, (hf b1 (by omega) (by omega) (by omega) (by omega)).trans h.s, ⟨Nat.le_trans h.k.1 hn, fun c hc => (hf c (by have := h.k.1; omega) (by omega) (by omega) (by omega)).trans (h.k.2 c hc)⟩, by omega, by omega⟩
  have h6 := a3 c hc
  have h7 := (a2.lt hc).2
  omega
set_option maxHeartbeats 16000000 in
set_option maxRecDepth 100000 in
theorem fewCb_spec [Orc] {B b1 c2 c3 b q : Nat} {H X : Heap} {sv gv pv : Value} {vs : List Value} {gs : List (List Int)} {s : List Int × Int} {p : List Int} (hBc : B ≤ c2) (hHc : H.n ≤ c2) (hc3 : c2 < c3) (hc : c3 < b) (h1 : b1 < c2) (hg : Gri H gv vs gs) (h9 : gs.length ≤ 9)
    (hJ : JB H b1 c2 c3 b sv gv s q X) (hp : Ints X pv p) (hq : q < X.n) (hb6 : b + 6 ≤ X.n) (hBX : B ≤ X.n) (hpl : p.length ≤ gs.length) (hrb : 0 ≤ repP gs p ∧ repP gs p < 108) :
    CallB Try.prog B 115 [pv, VI (repP gs p), .pointer (some ⟨c3, 0, none⟩), .pointer (some ⟨b1, 0, none⟩), .pointer (some ⟨c2, 0, none⟩)] X (fun v X' => v = .bool (grB gs s p) ∧ JB H b1 c2 c3 b sv gv (nxB gs s p) q X' ∧ (∀ x, (b ≤ x ∧ x < b + 6 ∨ x = q) → X'.get x = X.get x) ∧ X.n ≤ X'.n) := by
  obtain ⟨lv, hl, ho, hlq⟩ := hJ.l
  have hgx := hg.keep hJ.k
  have hm := hJ.m
  have hqb := hJ.q
  refine CV.enter callees false (Orc.hv rfl rfl) Try.func115 rfl (by kernel_rfl) (Nat.le_of_ble_eq_true rfl) hBX ?_ (Orc.hw rfl rfl)
  by_cases h0 : s.2 ≤ repP gs p
  · have e1 : grB gs s p = false := by simp [grB, h0]
    have e2 : nxB gs s p = s := by simp [nxB, e1]
    rw [e1, e2]
    repeat' first
      | refine CO.cons rfl ?_
      | refine CO.nil ?_
      | refine CV.seq ?_
      | refine CV.region callees ?_
      | refine CV.cond ?_
      | refine CV.ret ?_
      | (refine ⟨_, cell_load ag3 hm rfl, ?_⟩)
      | (refine ⟨fun _ => ?_, fun _ => ?_⟩ <;> first | (exfalso; omega) | skip)
      | fail
    exact ⟨rfl, rfl, hJ, fun x _ => rfl, Nat.le_refl _⟩
  have e1 : grB gs s p = true := by simp [grB]; omega
  rw [e1]
  by_cases h3 : p.length = gs.length
  · have e2 : nxB gs s p = (p, repP gs p) := by simp [nxB, e1, h3]
    rw [e2]
    repeat' first
      | refine CO.cons rfl ?_
      | refine CO.nil ?_
      | refine CV.seq ?_
      | refine CV.region callees ?_
      | refine CV.cond ?_
      | refine CV.skip ?_
      | refine ⟨_, ints_len (by assumption), ?_⟩
      | (refine ⟨_, cell_load ag3 hm rfl, ?_⟩)
      | (refine ⟨_, fS fe1 (by decide), ?_⟩)
      | (refine ⟨_, cell_load agGr hJ.s rfl, ?_⟩)
      | (refine ⟨_, hgx.alen, ?_⟩)
      | (refine ⟨fun _ => ?_, fun _ => ?_⟩ <;> first | (exfalso; omega) | skip)
      | fail
    refine (clone_spec (by omega) hp (by omega)).mono ?_
    rintro w X2 ⟨hw, k2⟩
    have l2 := k2.1
    have hl2 := (k2.2 c2 (by omega)).trans hl
    have hm2 := (k2.2 c3 (by omega)).trans hm
    have hwa : ∀ c, blkOf w = some c → X.n ≤ c := fun c hc => (hw.lt hc).1
    repeat' first
      | refine CO.cons rfl ?_
      | fail
    refine ⟨_, _, store_row (i := 0) sz26 hl2 (by show 0 < 1; decide) (Row.oneC hw.row).1, by omega, ?_⟩
    generalize hs3 : Heap.set X2 c2 _ = H3
    have hg3 : H3.get c2 = some (.cells ([w]) 29 1) := set_get hs3
    have n3 := set_n hs3
    have o3 := set_old hs3
    have hm3 := (o3 c3 (by omega)).trans hm2
    repeat' first
      | refine CO.cons rfl ?_
      | fail
    refine ⟨_, _, var_store sz3 hm3 rfl, by omega, ?_⟩
    generalize hs4 : Heap.set H3 c3 _ = H4
    have hg4 : H4.get c3 = some (.cells ([VI (repP gs p)]) 3 1) := set_get hs4
    have n4 := set_n hs4
    have o4 := set_old hs4
    repeat' first
      | refine CO.cons rfl ?_
      | refine CO.nil ?_
      | refine CV.seq ?_
      | refine CV.region callees ?_
      | refine CV.ret ?_
      | fail
    refine ⟨rfl, rfl, ⟨⟨w, (o4 c2 (by omega)).trans hg3, own_keepF (Own.lower hw hb6) (by omega) fun c hc => (o4 c (by have := hwa c hc; omega)).trans (o3 c (by have := hwa c hc; omega)), fun c hc => by have := hwa c hc; omega⟩, hg4, (o4 b1 (by omega)).trans ((o3 b1 (by omega)).trans ((k2.2 b1 (by omega)).trans hJ.s)), ⟨by have := hJ.k.1; omega, fun c hc => (o4 c (by omega)).trans ((o3 c (by omega)).trans ((k2.2 c (by have := hJ.k.1; omega)).trans (hJ.k.2 c hc)))⟩, by omega, hqb⟩, fun x hx => (o4 x (by omega)).trans ((o3 x (by omega)).trans (k2.2 x (by omega))), by omega⟩
  · have e2 : nxB gs s p = s := by simp [nxB, h3]
    rw [e2]
    repeat' first
      | refine CO.cons rfl ?_
      | refine CO.nil ?_
      | refine CV.seq ?_
      | refine CV.region callees ?_
      | refine CV.cond ?_
      | refine CV.skip ?_
      | refine CV.ret ?_
      | refine ⟨_, ints_len (by assumption), ?_⟩
      | (refine ⟨_, cell_load ag3 hm rfl, ?_⟩)
      | (refine ⟨_, fS fe1 (by decide), ?_⟩)
      | (refine ⟨_, cell_load agGr hJ.s rfl, ?_⟩)
      | (refine ⟨_, hgx.alen, ?_⟩)
      | (refine ⟨fun _ => ?_, fun _ => ?_⟩ <;> first | (exfalso; omega) | skip)
      | fail
    exact ⟨rfl, rfl, hJ, fun x _ => rfl, Nat.le_refl _⟩
/-- What Fewest answers. -/
def fewXs (st : List Int) (gs : List (List Int)) : List Int × Int := if seaE st gs = 0 then planB gs (combos st).toNat else ([], 0)
theorem zc3 : zeroCellsW Try.prog 3 = some [VI 0] := by kernel_rfl
theorem al3 {H : Heap} : sAlloc Try.prog H 3 = some (.pointer (some ⟨H.n, 0, none⟩), H.new (.cells [VI 0] 3 1), H.n) := alloc_ofW zc3
set_option maxHeartbeats 16000000 in
set_option maxRecDepth 100000 in
theorem fewest_spec [Orc] {B : Nat} {H : Heap} {s g : Value} {gv : List Value} {st : List Int} {gs : List (List Int)} (hB : B ≤ H.n) (hs : Ints H s st) (hg : Gri H g gv gs) (hsn : st.length < 1000000) (hgn : gs.length < 1000000) (hgg : ∀ x ∈ gs, x.length < 1000000) :
    CallB Try.prog B 57 [Sev s g] H (fun r H' => (∃ q, r = .tuple #[q, VI (fewXs st gs).2, VI (seaE st gs)] ∧ Ints H' q (fewXs st gs).1) ∧ Keep H H') := by
  refine CV.enter callees false (Orc.hv rfl rfl) Try.func57 rfl (by kernel_rfl) (Nat.le_of_ble_eq_true rfl) hB ?_ (Orc.hw rfl rfl)
  repeat' first
    | refine CO.cons rfl ?_
    | refine CV.seq ?_
    | refine CV.region callees ?_
    | fail
  refine ⟨(by simp only [notTuple]), ?_⟩
  rw [boxSe]
  generalize hs0 : Heap.new H _ = H0
  have hg0 := new_get hs0
  have k0 := new_keep hs0
  have n0 := new_n hs0
  obtain ⟨b0, hbn0⟩ : ∃ b, Heap.n H = b := ⟨_, rfl⟩
  rw [hbn0] at hg0 n0 ⊢
  repeat' first
    | refine CO.cons rfl ?_
    | (refine ⟨_, _, al26, ?_⟩)
    | fail
  generalize hs1 : Heap.new H0 _ = H1
  have hg1 := new_get hs1
  have k1 := new_keep hs1
  have n1 := new_n hs1
  obtain ⟨b1, hbn1⟩ : ∃ b, Heap.n H0 = b := ⟨_, rfl⟩
  rw [hbn1] at hg1 n1 ⊢
  repeat' first
    | refine CO.cons rfl ?_
    | refine CO.nil ?_
    | refine CV.seq ?_
    | refine CV.region callees ?_
    | (refine ⟨_, _, al3, ?_⟩)
    | fail
  generalize hs2 : Heap.new H1 _ = H2
  have hg2 := new_get hs2
  have k2 := new_keep hs2
  have n2 := new_n hs2
  obtain ⟨b2, hbn2⟩ : ∃ b, Heap.n H1 = b := ⟨_, rfl⟩
  rw [hbn2] at hg2 n2 ⊢
  have k02 := (k0.trans k1).trans k2
  have l02 := k02.1
  have hS2 := (k2.2 b0 (by omega)).trans ((k1.2 b0 (by omega)).trans hg0)
  have hp2 := (k2.2 b1 (by omega)).trans hg1
  have hs2 : Ints H2 s st := hs.keep k02
  have hgr2 := hg.keep k02
  repeat' first
    | refine CO.cons rfl ?_
    | (refine ⟨_, ldSe hS2, ?_⟩)
    | fail
  refine (checkSeason_spec (by omega) hs2 hgr2 hsn hgn hgg).mono ?_
  rintro r H3 ⟨rfl, k3⟩
  have l3 := k3.1
  have k03 := k02.trans k3
  have hS3 := (k3.2 b0 (by omega)).trans hS2
  have hp3 := (k3.2 b1 (by omega)).trans hp2
  have hm3 := (k3.2 b2 (by omega)).trans hg2
  by_cases he : seaE st gs = 0
  rotate_left
  · have e : fewXs st gs = ([], 0) := by unfold fewXs; rw [if_neg he]
    rw [e]
    repeat' first
      | refine CO.cons rfl ?_
      | refine CO.nil ?_
      | refine CV.seq ?_
      | refine CV.region callees ?_
      | refine CV.cond ?_
      | (refine ⟨fun _ => ?_, fun _ => ?_⟩ <;> first | (exfalso; omega) | skip)
      | fail
    refine ⟨_, _, var_store sz26 hp3 rfl, by omega, ?_⟩
    generalize hs4 : Heap.set H3 b1 _ = H4
    have hg4 : H4.get b1 = some (.cells ([nilS]) 29 1) := set_get hs4
    have n4 := set_n hs4
    have o4 := set_old hs4
    have hm4 := (o4 b2 (by omega)).trans hm3
    repeat' first
      | refine CO.cons rfl ?_
      | fail
    refine ⟨_, _, var_store sz3 hm4 rfl, by omega, ?_⟩
    generalize hs5 : Heap.set H4 b2 _ = H5
    have hg5 : H5.get b2 = some (.cells ([VI 0]) 3 1) := set_get hs5
    have n5 := set_n hs5
    have o5 := set_old hs5
    have hp5 := (o5 b1 (by omega)).trans hg4
    repeat' first
      | refine CO.cons rfl ?_
      | refine CO.nil ?_
      | refine CV.ret ?_
      | fail
    exact ⟨_, cell_load agN hp5 rfl, _, cell_load ag3 hg5 rfl, rfl, ⟨_, rfl, .inl ⟨rfl, rfl⟩⟩, keep_put (keep_put k03 (by omega) o4 n4) (by omega) o5 n5⟩
  obtain ⟨hok, h9, _⟩ := seaE_ok he
  have hgo := gsOk_of he
  have hc := hok.all
  obtain ⟨K, hK⟩ : ∃ K : Nat, combos st = (K : Int) := ⟨(combos st).toNat, by omega⟩
  have e : fewXs st gs = planB gs K := by unfold fewXs; rw [if_pos he, hK]; rfl
  rw [he, e]
  repeat' first
    | refine CO.cons rfl ?_
    | refine CO.nil ?_
    | refine CV.seq ?_
    | refine CV.region callees ?_
    | refine CV.cond ?_
    | refine CV.skip ?_
    | (refine ⟨fun _ => ?_, fun _ => ?_⟩ <;> first | (exfalso; omega) | skip)
    | fail
  refine ⟨_, _, var_store sz3 hm3 rfl, by omega, ?_⟩
  generalize hs4 : Heap.set H3 b2 _ = H4
  have hg4 : H4.get b2 = some (.cells ([VI 108]) 3 1) := set_get hs4
  have n4 := set_n hs4
  have o4 := set_old hs4
  have hS4 := (o4 b0 (by omega)).trans hS3
  have hp4 := (o4 b1 (by omega)).trans hp3
  have k04 : Keep H H4 := keep_put k03 (by omega) o4 n4
  have l04 := k04.1
  repeat' first
    | refine CO.cons rfl ?_
    | refine CO.nil ?_
    | refine CV.seq ?_
    | refine CV.region callees ?_
    | (refine ⟨_, ldSe hS4, ?_⟩)
    | (refine ⟨(rfl : List.all _ cellLike = true), ?_⟩)
    | fail
  have ht := tryPlans_spec (B := B) (fn := 115) (K := K) (H := H4) (sv := s) (gv := g) (cap := #[.pointer (some ⟨b2, 0, none⟩), .pointer (some ⟨b0, 0, none⟩), .pointer (some ⟨b1, 0, none⟩)]) (vs := gv) (st := st) (gs := gs) (s0 := (([] : List Int), (108 : Int))) (JB H b0 b1 b2 H4.n s g) (grB gs) (nxB gs) rfl (by omega) hgo hok hK
    (fun X kk => ⟨⟨nilS, (kk.2 b1 (by omega)).trans hp4, .inl ⟨rfl, rfl⟩, fun c hc => by cases hc⟩, (kk.2 b2 (by omega)).trans hg4, (kk.2 b0 (by omega)).trans hS4, k04.trans kk, kk.1, by omega⟩)
    (fun s' q X hJ => ⟨hs.keep hJ.k, hg.keep hJ.k⟩)
    (fun s' q q' X X' hJ hn hf hq => hJ.stay (by omega) (by omega) (by omega) (by omega) hn hf hq)
    (fun s' p q pv X hJ hM hBX hpl => fewCb_spec (by omega) (by omega) (by omega) (by omega) (by omega) hg h9 hJ hM.row hM.qn.2.1 hM.n hBX hpl (repP_lt hgo hpl))
  refine ht.mono ?_
  rintro v H5 ⟨⟨q, hJ⟩, l5⟩
  have hw : walkP (grB gs) (nxB gs) K gs.length [] (([] : List Int), (108 : Int)) = planB gs K := rfl
  rw [hw] at hJ
  obtain ⟨lv, hl, ho, _⟩ := hJ.l
  have hm5 := hJ.m
  have l5 := hJ.n
  refine CO.nil ?_
  refine CV.seq ?_
  refine CV.wideR callees (by decide +kernel) [(0, []), (1, []), (2, [1]), (3, []), (4, [])] (by kernel_rfl) ?_
  repeat' first
    | refine CR.cons ?_
    | (refine ⟨_, cell_load agN hl rfl, ?_⟩)
    | (refine ⟨_, cell_load ag3 hm5 rfl, ?_⟩)
    | (refine ⟨(show b2 ≠ b1 by omega), ?_⟩)
    | fail
  refine ⟨_, _, var_store sz26 hl (Row.oneC ho.row).1, by omega, ?_⟩
  generalize hs6 : Heap.set H5 b1 _ = H6
  have hg6 : H6.get b1 = some (.cells ([lv]) 29 1) := set_get hs6
  have n6 := set_n hs6
  have o6 := set_old hs6
  have hm6 := (o6 b2 (by omega)).trans hm5
  repeat' first
    | refine CR.cons ?_
    | fail
  refine ⟨_, _, var_store sz3 hm6 rfl, by omega, ?_⟩
  generalize hs7 : Heap.set H6 b2 _ = H7
  have hg7 : H7.get b2 = some (.cells ([VI (planB gs K).2]) 3 1) := set_get hs7
  have n7 := set_n hs7
  have o7 := set_old hs7
  have hp7 := (o7 b1 (by omega)).trans hg6
  have ho7 : Own 3 H7 lv ((planB gs K).1.map VI) (H4.n + 6) := own_keepF ho (by omega) fun c hc => (o7 c (by have := (ho.lt hc).1; omega)).trans (o6 c (by have := (ho.lt hc).1; omega))
  repeat' first
    | refine CV.ret ?_
    | refine CR.cons ?_
    | refine CR.nil ?_
    | fail
  exact ⟨_, cell_load agN hp7 rfl, _, cell_load ag3 hg7 rfl, by simp only [List.all_cons, List.all_nil, ho.notTuple]; rfl, ⟨lv, rfl, ho7.row⟩, keep_put (keep_put hJ.k (by omega) o6 n6) (by omega) o7 n7⟩
end Go.Proofs.Ytijimplcjaeneaa

