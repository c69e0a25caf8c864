
/- tryPlans: plans, one by one. -/
import Derived.Test.Ytijimplcjaeneaap0o
set_option linter.unusedVariables false
set_option linter.unusedSimpArgs false
namespace Go.Proofs.Ytijimplcjaeneaa
open Go.AI
abbrev hT : TypeId := 94
abbrev kT : TypeId := 173
abbrev eT : TypeId := 149
theorem agH : isAggB Try.prog hT = some false := by kernel_rfl
theorem agK : isAggB Try.prog kT = some false := by kernel_rfl
theorem szK : sizeB Try.prog kT = some 1 := by kernel_rfl
theorem agMe : isAggB Try.prog eT = some false := by kernel_rfl
theorem szMe : sizeB Try.prog eT = some 1 := by kernel_rfl
theorem zcK : zeroCellsW Try.prog kT = some [.nilFunc] := by kernel_rfl
theorem alK {H : Heap} : sAlloc Try.prog H kT = some (.pointer (some ⟨H.n, 0, none⟩), H.new (.cells [.nilFunc] kT 1), H.n) := alloc_ofW zcK
theorem zcMe : zeroCellsW Try.prog eT = some [.map none] := by kernel_rfl
theorem alMe {H : Heap} : sAlloc Try.prog H eT = some (.pointer (some ⟨H.n, 0, none⟩), H.new (.cells [.map none] eT 1), H.n) := alloc_ofW zcMe
/-- The function that tries plans. -/
abbrev tryV (b : Nat) : Value := .func (.func 133) #[] #[.pointer (some ⟨b + 1, 0, none⟩), .pointer (some ⟨b + 2, 0, none⟩), .pointer (some ⟨b, 0, none⟩), .pointer (some ⟨b + 4, 0, none⟩), .pointer (some ⟨b + 5, 0, none⟩)]
/-- The plan, as it lies in memory. -/
def PV (b q : Nat) (pre : List Int) (pv : Value) (X : Heap) : Prop := (pv = nilS ∧ pre = [] ∧ q = b + 2) ∨ ∃ cs, pv = pile q pre.length ∧ X.get q = some (.cells cs 3 2) ∧ cs.take pre.length = pre.map VI ∧ b + 6 ≤ q ∧ q < X.n
theorem PV.at {b q : Nat} {pre : List Int} {pv : Value} {X X' : Heap} (h : PV b q pre pv X) (e : b + 6 ≤ q → X'.get q = X.get q) (hn : X.n ≤ X'.n) : PV b q pre pv X' := by
  rcases h with h1 | ⟨cs, h1, h2, h3, h4, h5⟩
  · exact .inl h1
  · exact .inr ⟨cs, h1, (e h4).trans h2, h3, h4, by omega⟩
theorem PV.row {b q : Nat} {pre : List Int} {pv : Value} {X : Heap} (h : PV b q pre pv X) : Ints X pv pre := by
  rcases h with ⟨rfl, rfl, _⟩ | ⟨cs, rfl, h2, h3, h4, h5⟩
  · exact .inl ⟨rfl, rfl⟩
  · exact pile_row h2 h3 h5
/-- What is its own. -/
structure MineP (b : Nat) (sv gv gV : Value) (gs : List (List Int)) (pre : List Int) (q : Nat) (pv : Value) (X : Heap) : Prop where
  s : X.get b = some (.cells [sv, gv] 68 1)
  g : X.get (b + 1) = some (.cells [gV] hT 1)
  p : X.get (b + 2) = some (.cells [pv] 29 1)
  m : X.get (b + 4) = some (.cells [.map (some (b + 3))] eT 1)
  f : X.get (b + 5) = some (.cells [tryV b] kT 1)
  c : Meet X (b + 3) (cntF gs pre pre.length)
  v : PV b q pre pv X
  n : b + 6 ≤ X.n
theorem Meet.at {X X' : Heap} {r : Nat} {f : Int → Int → Int} (h : Meet X r f) (e : X'.get r = X.get r) : Meet X' r f := by
  obtain ⟨W, M, h1, h2⟩ := h
  exact ⟨W, M, e.trans h1, h2⟩
theorem MineP.frame {b q : Nat} {sv gv gV pv : Value} {gs : List (List Int)} {pre : List Int} {X X' : Heap} (h : MineP b sv gv gV gs pre q pv X) (hf : ∀ x, (b ≤ x ∧ x < b + 6 ∨ x = q) → X'.get x = X.get x) (hn : X.n ≤ X'.n) : MineP b sv gv gV gs pre q pv X' := by
  refine ⟨(hf _ (.inl (by omega))).trans h.s, (hf _ (.inl (by omega))).trans h.g, (hf _ (.inl (by omega))).trans h.p, (hf _ (.inl (by omega))).trans h.m, (hf _ (.inl (by omega))).trans h.f, h.c.at (hf _ (.inl (by omega))), h.v.at (fun _ => hf q (.inr rfl)) hn, Nat.le_trans h.n hn⟩
theorem MineP.qn {b q : Nat} {sv gv gV pv : Value} {gs : List (List Int)} {pre : List Int} {X : Heap} (h : MineP b sv gv gV gs pre q pv X) : b + 2 ≤ q ∧ q < X.n ∧ q ≠ b + 3 ∧ (q < b + 6 → q = b + 2) := by
  have := h.n
  rcases h.v with ⟨_, _, h1⟩ | ⟨cs, h1, h2, h3, h4, h5⟩
  · omega
  · omega
theorem MineP.keep {b q : Nat} {sv gv gV pv : Value} {gs : List (List Int)} {pre : List Int} {X X' : Heap} (h : MineP b sv gv gV gs pre q pv X) (k : Keep X X') : MineP b sv gv gV gs pre q pv X' := by
  have h1 := h.n
  have h2 := h.qn
  exact h.frame (fun x hx => k.2 x (by omega)) k.1
theorem MineP.row {b q : Nat} {sv gv gV pv : Value} {gs : List (List Int)} {pre : List Int} {X : Heap} (h : MineP b sv gv gV gs pre q pv X) : Ints X pv pre := h.v.row
theorem addF_undo {f : Int → Int → Int} {gl : List Int} {c : Int} : addF (addF f gl c 1) gl c (-1) = f := by
  funext g d
  unfold addF
  split <;> omega
theorem plan_push {K : Value → Heap → Prop} {B b q : Nat} {H : Heap} {pv : Value} {pre : List Int} {y : Int} (hM : PV b q pre pv H) (hB : B ≤ b) (hbn : b + 6 ≤ H.n) (hn : pre.length < 100)
    (hk : ∀ H' q', H.n ≤ q' → q' < H'.n → H'.get q' = some (.cells ((pre ++ [y]).map VI) 3 2) → (∀ p, p < H.n → p ≠ q ∨ p < b + 6 → H'.get p = H.get p) → H.n ≤ H'.n → K (pile q' (pre ++ [y]).length) H') :
    ∃ v H' lo, aappend Try.prog (H.new (.cells [VI y] 3 2)) #[29, 29] pv (.slice (some ⟨H.n, 0, none⟩) 1 0) = some (v, H', lo) ∧ B ≤ lo ∧ K v H' := by
  rcases hM with ⟨rfl, rfl, _⟩ | ⟨cs, rfl, h2, h3, h4, h5⟩
  · refine push_ask (B0 := H.n) (l := []) (.inl ⟨rfl, rfl⟩) (Nat.le_refl _) (by omega) (by simp) fun r H' ho kb hf => ?_
    rcases ho with ⟨_, h⟩ | ⟨c, rfl, h1, h2, h3⟩
    · simp at h
    · exact hk H' c h1 h2 h3 (fun p hp _ => kb.get p hp (fun h => by cases h)) kb.le
  · refine pile_push h2 h3 h5 (by omega) hn fun H' hp hk' hn' => ?_
    exact hk H' (H.n + 1) (by omega) (by omega) hp (fun p hp hpq => hk' p hp (by omega)) (by omega)
theorem call_var {fn : Nat} {A : Prop} (hb : (Nat.ble 2 fn && Nat.blt fn 155) = true) (h : A) : (bif Nat.ble 2 fn && Nat.blt fn 155 then A else False) := by
  rw [hb, cond_true]
  exact h
set_option maxHeartbeats 32000000 in
set_option maxRecDepth 100000 in
theorem try1_spec [Orc] {S : Type} {B b fn K : Nat} {sv gv : Value} {cap : Array Value} {vs : List Value} {st : List Int} {gs : List (List Int)} (J : S → Nat → Heap → Prop) (gr : S → List Int → Bool) (nx : S → List Int → S)
    (hb : (Nat.ble 2 fn && Nat.blt fn 155) = true) (hBb : B ≤ b) (hgo : GsOk gs) (hok : SoOk st) (hK : combos st = (K : Int))
    (hJc : ∀ s q X, J s q X → Ints X sv st ∧ Gri X gv vs gs)
    (hJs : ∀ s q q' X X', J s q X → X.n ≤ X'.n → (∀ p, p < X.n → p ≠ q → p ≠ b + 2 → p ≠ b + 3 → X'.get p = X.get p) → (q' = q ∨ X.n ≤ q') → J s q' X')
    (hY : ∀ s p q pv X, J s q X → MineP b sv gv (.func (.func fn) #[] cap) gs p q pv X → B ≤ X.n → p.length ≤ gs.length → CallB Try.prog B fn (pv :: VI (repP gs p) :: cap.toList) X (fun v X' => v = .bool (gr s p) ∧ J (nx s p) q X' ∧ (∀ x, (b ≤ x ∧ x < b + 6 ∨ x = q) → X'.get x = X.get x) ∧ X.n ≤ X'.n)) :
    ∀ (r : Nat) (p : List Int) (s : S) (q : Nat) (pv : Value) (X : Heap), p.length + r = gs.length → (∀ x ∈ p, 0 ≤ x ∧ x < K) → J s q X → MineP b sv gv (.func (.func fn) #[] cap) gs p q pv X → B ≤ X.n →
    CallB Try.prog B 133 [VI (repP gs p), VI (tak p : Nat), .pointer (some ⟨b + 1, 0, none⟩), .pointer (some ⟨b + 2, 0, none⟩), .pointer (some ⟨b, 0, none⟩), .pointer (some ⟨b + 4, 0, none⟩), .pointer (some ⟨b + 5, 0, none⟩)] X
      (fun _ X' => (∃ q' pv', J (walkP gr nx K r p s) q' X' ∧ MineP b sv gv (.func (.func fn) #[] cap) gs p q' pv' X') ∧ X.n ≤ X'.n) := by
  have h9 := hgo.n
  have hKb := hok.all
  have htk : ∀ p : List Int, (∀ x ∈ p, 0 ≤ x ∧ x < K) → tak p ≤ K := fun p hp => by
    have : ∀ (l : List Int) (m : Nat), m ≤ K → (∀ x ∈ l, 0 ≤ x ∧ x < K) → l.foldl (fun (m : Nat) (x : Int) => max m (x.toNat + 1)) m ≤ K := fun l => by
      induction l with
      | nil => intro m hm _; exact hm
      | cons x l ih =>
        intro m hm hl
        have := hl x (by simp)
        exact ih _ (Nat.max_le.2 ⟨hm, by omega⟩) fun y hy => hl y (by simp [hy])
    exact this p 0 (Nat.zero_le _) hp
  intro r
  induction r with
  | zero =>
    intro p s q pv X hpr hpm hJ hM hBX
    have hrow : Ints X pv p := hM.row
    refine CV.enter callees false (Orc.hv rfl rfl) Try.func133 rfl (by kernel_rfl) (Nat.le_of_ble_eq_true rfl) hBX ?_ (Orc.hw rfl rfl)
    repeat' first
      | refine CO.cons rfl ?_
      | refine CV.seq ?_
      | refine CV.region callees ?_
      | (refine ⟨_, cell_load agH hM.g rfl, ?_⟩)
      | (refine ⟨_, cell_load agN hM.p rfl, ?_⟩)
      | fail
    refine call_var hb ?_
    refine (hY s p q pv X hJ hM hBX (by omega)).mono ?_
    have hw : walkP gr nx K 0 p s = nx s p := rfl
    rw [hw]
    rintro v X1 ⟨rfl, hJ1, hfr, l1⟩
    have hM1 := hM.frame hfr l1
    have hrow1 : Ints X1 pv p := hM1.row
    obtain ⟨hsx, hgx⟩ := hJc _ _ _ hJ1
    cases hg : gr s p
    · repeat' first
        | refine CO.cons rfl ?_
        | refine CO.nil ?_
        | refine CV.cond ?_
        | refine CV.ret ?_
        | refine CO.consG rfl ?_
        | fail
      exact ⟨rfl, ⟨q, pv, hJ1, hM1⟩, l1⟩
    · have hpl : p.length = gs.length := by omega
      repeat' first
        | refine CO.cons rfl ?_
        | refine CO.nil ?_
        | refine CV.cond ?_
        | refine CV.ret ?_
        | refine CO.consG rfl ?_
        | refine ⟨_, ints_len (by assumption), ?_⟩
        | (refine ⟨_, cell_load agN hM1.p rfl, ?_⟩)
        | (refine ⟨_, fS fe1 (by decide), ?_⟩)
        | (refine ⟨_, cell_load agGr hM1.s rfl, ?_⟩)
        | (refine ⟨_, hgx.alen, ?_⟩)
        | (refine ⟨fun _ => ?_, fun _ => ?_⟩ <;> first | (exfalso; omega) | skip)
        | fail
      exact ⟨rfl, ⟨q, pv, hJ1, hM1⟩, l1⟩
  | succ r ih =>
    intro p s q pv X hpr hpm hJ hM hBX
    have hrow : Ints X pv p := hM.row
    refine CV.enter callees false (Orc.hv rfl rfl) Try.func133 rfl (by kernel_rfl) (Nat.le_of_ble_eq_true rfl) hBX ?_ (Orc.hw rfl rfl)
    repeat' first
      | refine CO.cons rfl ?_
      | refine CV.seq ?_
      | refine CV.region callees ?_
      | (refine ⟨_, cell_load agH hM.g rfl, ?_⟩)
      | (refine ⟨_, cell_load agN hM.p rfl, ?_⟩)
      | fail
    refine call_var hb ?_
    refine (hY s p q pv X hJ hM hBX (by omega)).mono ?_
    rintro v X1 ⟨rfl, hJ1, hfr, l1⟩
    have hM1 := hM.frame hfr l1
    have hrow1 : Ints X1 pv p := hM1.row
    obtain ⟨hsx, hgx⟩ := hJc _ _ _ hJ1
    cases hg : gr s p
    · have hw : walkP gr nx K (r + 1) p s = nx s p := by rw [walkP, if_neg (by rw [hg]; simp)]
      rw [hw]
      repeat' first
        | refine CO.cons rfl ?_
        | refine CO.nil ?_
        | refine CV.cond ?_
        | refine CV.ret ?_
        | refine CO.consG rfl ?_
        | fail
      exact ⟨rfl, ⟨q, pv, hJ1, hM1⟩, l1⟩
    have hw : walkP gr nx K (r + 1) p s = walkK gr nx K r p (nx s p) (min (tak p + 1) K) := by rw [walkP, if_pos hg]; rfl
    rw [hw]
    clear hw
    have hpl : p.length < gs.length := by omega
    have hn1 := hM1.n
    have hrb := repP_lt hgo (p := p) (by omega)
    have htp := htk p hpm
    have had := hgx.addr hpl
    have hld := hgx.load hpl
    repeat' first
      | refine CO.cons rfl ?_
      | refine CO.nil ?_
      | refine CV.seq ?_
      | refine CV.region callees ?_
      | refine CV.cond ?_
      | refine CV.skip ?_
      | refine CO.consG rfl ?_
      | refine ⟨_, ints_len (by assumption), ?_⟩
      | refine ⟨(⟨by omega, by omega⟩ : inI64 _), ?_⟩
      | (refine ⟨_, cell_load agN hM1.p rfl, ?_⟩)
      | (refine ⟨_, fS fe1 (by decide), ?_⟩)
      | (refine ⟨_, cell_load agGr hM1.s rfl, ?_⟩)
      | (refine ⟨_, hgx.alen, ?_⟩)
      | (refine ⟨_, had, ?_⟩)
      | (refine ⟨_, hld, ?_⟩)
      | (refine ⟨_, ldSe hM1.s, ?_⟩)
      | (refine ⟨fun _ => ?_, fun _ => ?_⟩ <;> first | (exfalso; omega) | skip)
      | fail
    refine (combos_spec (by omega) hsx hok).mono ?_
    rw [hK]
    rintro v X2 ⟨rfl, k2⟩
    have l2 := k2.1
    have hM2 := hM1.keep k2
    have hq1 := hM1.qn
    have hJ2 : J (nx s p) q X2 := hJs _ q q X1 X2 hJ1 l2 (fun x hx _ _ _ => k2.2 x hx) (.inl rfl)
    have hmin : min ((tak p : Int) + 1) (K : Int) = ((min (tak p + 1) K : Nat) : Int) := by omega
    obtain ⟨m, hm⟩ : ∃ m, min (tak p + 1) K = m := ⟨_, rfl⟩
    rw [hm] at hmin ⊢
    repeat' first
      | refine CO.cons rfl ?_
      | refine CO.nil ?_
      | refine CV.block ?_
      | refine ⟨_, fun tm ha => step1_min rfl (ev_tmp ha rfl) (ev_tmp ha rfl), ?_⟩
      | (rw [hmin])
      | fail
    refine CV.loopc ?_
    refine WCv.rounds callees false (α := Nat × Nat × Value) (fun (i, q, pv) => [(0, VI (repP gs p)), (1, VI (tak p : Nat)), (2, .pointer (some ⟨b + 1, 0, none⟩)), (3, .pointer (some ⟨b + 2, 0, none⟩)), (4, .pointer (some ⟨b, 0, none⟩)), (5, .pointer (some ⟨b + 4, 0, none⟩)), (6, .pointer (some ⟨b + 5, 0, none⟩)), (9, vs[p.length]!), (35, VI (m : Nat)), (36, VI i)]) (fun (i, q, pv) Hz => i ≤ m ∧ J (walkK gr nx K r p (nx s p) i) q Hz ∧ MineP b sv gv (.func (.func fn) #[] cap) gs p q pv Hz ∧ X2.n ≤ Hz.n) (fun (i, q, pv) => m - i) (0, q, pv) (by repeat' first | exact trivial | refine ⟨rfl, ?_⟩ | refine ⟨slot_int (by (try simp only [Int.toNat_natCast]); omega), ?_⟩) ?_ ?_
    · exact ⟨by omega, hJ2, hM2, Nat.le_refl _⟩
    clear hJ hM hJ1 hM1 hJ2 hM2 hrow hrow1 hfr hsx hgx hq1 had hld q pv
    rintro ⟨i, q, pv⟩ Hx ⟨hi, hJ, hM, lx⟩ hBx
    by_cases hi2 : i < m
    · obtain ⟨_, hgx⟩ := hJc _ _ _ hJ
      have hgl := hgo.nd p.length hpl
      have hnx := hM.n
      have hqx := hM.qn
      have hgn : gs[p.length]!.length < 1000000 := by
        have h1 := again_le hgo (p := p) (c := 0) hpl
        have h2 := cntG_len (k := 12) hgl fun x hx => by have := hgo.r p.length hpl x hx; omega
        have h3 : ∀ (l : List Int) (k : Nat), cntG l k ≤ k := fun l k => by
          induction k with
          | zero => exact Int.le_refl _
          | succ k ih => rw [cntG]; split <;> omega
        have := h3 gs[p.length]! 12
        omega
      have hag := again_le hgo (p := p) (c := (i : Int)) hpl
      repeat' first
        | refine CO.cons rfl ?_
        | refine CO.nil ?_
        | refine CV.seq ?_
        | refine CV.region callees ?_
        | refine CV.cond ?_
        | refine CV.block ?_
        | refine CV.skip ?_
        | (refine ⟨_, cell_load agMe hM.m rfl, ?_⟩)
        | (refine ⟨fun _ => ?_, fun _ => ?_⟩ <;> first | (exfalso; omega) | skip)
        | fail
      refine (again_spec (c := (i : Int)) (by omega) (by omega) hM.c (hgx.ints p.length hpl) hgn).mono ?_
      rintro q3 X3 ⟨hq3, k3⟩
      have l3 := k3.1
      have hq3' : Ints X3 q3 (againP gs p (i : Int)) := hq3.row
      have hM3 := hM.keep k3
      have hgx3 := hgx.keep k3
      repeat' first
        | refine CO.cons rfl ?_
        | refine CO.nil ?_
        | refine CV.seq ?_
        | refine CV.region callees ?_
        | refine ⟨_, ints_len (by assumption), ?_⟩
        | (refine ⟨_, cell_load agMe hM3.m rfl, ?_⟩)
        | fail
      refine (add_spec (c := (i : Int)) (t := 1) (by omega) (by omega) hM3.c (hgx3.ints p.length hpl) hgn hgl (fun g d => by have := cntF_bd (gs := gs) (plan := p) (i := p.length) (g := g) (c := d); omega) (by omega)).mono ?_
      rintro v4 X4 ⟨hc4, k4⟩
      have l4 := k4.1
      have n3 := hM3.n
      have q3n := hM3.qn
      have g4 : ∀ x, x < X3.n → x ≠ b + 3 → X4.get x = X3.get x := fun x hx hne => k4.2 x hx hne
      rw [← cntF_snoc] at hc4
      have hp4 := (g4 (b + 2) (by omega) (by omega)).trans hM3.p
      have hV4 : PV b q p pv X4 := hM3.v.at (fun _ => g4 q (by omega) (by omega)) l4
      repeat' first
        | refine CO.cons rfl ?_
        | refine CO.nil ?_
        | refine CV.seq ?_
        | refine CV.region callees ?_
        | (refine ⟨_, cell_load agN hp4 rfl, ?_⟩)
        | (refine ⟨_, _, build_one un22 one3 rfl, ?_⟩)
        | fail
      refine plan_push (y := (i : Int)) hV4 hBb (by omega) (by omega) ?_
      intro H5 q5 a1 a2 a3 a4 a5
      have hp5 := (a4 (b + 2) (by omega) (by omega)).trans hp4
      repeat' first
        | refine CO.cons rfl ?_
        | fail
      refine ⟨_, _, var_store sz26 hp5 rfl, by omega, ?_⟩
      generalize hs6 : Heap.set H5 (b + 2) _ = H6
      have hg6 : H6.get (b + 2) = some (.cells ([pile q5 (p ++ [(i : Int)]).length]) 29 1) := set_get hs6
      have n6 := set_n hs6
      have o6 := set_old hs6
      have g6 : ∀ x, x < X3.n → x ≠ b + 3 → x ≠ b + 2 → (x ≠ q ∨ x < b + 6) → H6.get x = X3.get x := fun x h1 h2 h3 h4 => (o6 x h3).trans ((a4 x (by omega) h4).trans (g4 x h1 h2))
      have hM6 : MineP b sv gv (.func (.func fn) #[] cap) gs (p ++ [(i : Int)]) q5 (pile q5 (p ++ [(i : Int)]).length) H6 :=
        ⟨(g6 b (by omega) (by omega) (by omega) (by omega)).trans hM3.s, (g6 (b + 1) (by omega) (by omega) (by omega) (by omega)).trans hM3.g, hg6, (g6 (b + 4) (by omega) (by omega) (by omega) (by omega)).trans hM3.m, (g6 (b + 5) (by omega) (by omega) (by omega) (by omega)).trans hM3.f,
          hc4.at ((o6 (b + 3) (by omega)).trans (a4 (b + 3) (by omega) (.inr (by omega)))), .inr ⟨_, rfl, (o6 q5 (by omega)).trans a3, by rw [List.take_of_length_le (by simp)], by omega, by omega⟩, by omega⟩
      have hJ6 : J (walkK gr nx K r p (nx s p) i) q5 H6 := hJs _ q q5 Hx H6 hJ (by omega) (fun x h1 h2 h3 h4 => (g6 x (by omega) h4 h3 (.inl h2)).trans (k3.2 x h1)) (.inr (by omega))
      have hih := ih (p ++ [(i : Int)]) (walkK gr nx K r p (nx s p) i) q5 _ H6 (by rw [List.length_append, List.length_singleton]; omega) (fun x hx => by
        rcases List.mem_append.1 hx with h | h
        · exact hpm x h
        · rw [List.mem_singleton] at h; omega) hJ6 hM6 (by omega)
      rw [repP_snoc, show ((tak (p ++ [(i : Int)]) : Nat) : Int) = max (tak p : Int) ((i : Int) + 1) by rw [tak_snoc]; omega] at hih
      repeat' first
        | refine CO.cons rfl ?_
        | refine CO.nil ?_
        | refine CV.seq ?_
        | refine CV.region callees ?_
        | refine ⟨(⟨by omega, by omega⟩ : inI64 _), ?_⟩
        | refine ⟨_, fun tm ha => step1_max rfl (ev_tmp ha rfl) (ev_tmp ha rfl), ?_⟩
        | (refine ⟨_, cell_load agK hM6.f rfl, ?_⟩)
        | fail
      refine hih.mono ?_
      rintro v7 X7 ⟨⟨q7, pv7, hJ7, hM7⟩, l7⟩
      have hrow7 : Ints X7 pv7 (p ++ [(i : Int)]) := hM7.row
      have n7 := hM7.n
      have q7n := hM7.qn
      obtain ⟨cs7, rfl, b1, b2, b3, b4⟩ : ∃ cs, pv7 = pile q7 (p ++ [(i : Int)]).length ∧ X7.get q7 = some (.cells cs 3 2) ∧ cs.take (p ++ [(i : Int)]).length = (p ++ [(i : Int)]).map VI ∧ b + 6 ≤ q7 ∧ q7 < X7.n := by
        rcases hM7.v with ⟨_, h, _⟩ | h
        · simp at h
        · exact h
      have hlen2 : (p ++ [(i : Int)]).length = p.length + 1 := by simp
      repeat' first
        | refine CO.cons rfl ?_
        | refine CO.nil ?_
        | refine CV.seq ?_
        | refine CV.region callees ?_
        | refine ⟨_, ints_len (by assumption), ?_⟩
        | refine ⟨(⟨by omega, by omega⟩ : inI64 _), ?_⟩
        | (refine ⟨_, cell_load agN hM7.p rfl, ?_⟩)
        | (refine ⟨_, sl_cut (by omega) (by omega), ?_⟩)
        | fail
      refine ⟨_, _, var_store sz26 hM7.p rfl, by omega, ?_⟩
      generalize hs8 : Heap.set X7 (b + 2) _ = X8
      have hg8 : X8.get (b + 2) = some (.cells [pile q7 (((p ++ [(i : Int)]).length : Int) - 1).toNat] 29 1) := set_get hs8
      have n8 := set_n hs8
      have o8 := set_old hs8
      rw [show (((p ++ [(i : Int)]).length : Int) - 1).toNat = p.length by omega] at hg8
      obtain ⟨_, hgx7⟩ := hJc _ _ _ hJ7
      have hJ8 := hJs _ q7 q7 X7 X8 hJ7 (by omega) (fun x _ _ h _ => o8 x h) (.inl rfl)
      obtain ⟨_, hgx8⟩ := hJc _ _ _ hJ8
      have hc8 : Meet X8 (b + 3) (cntF gs (p ++ [(i : Int)]) (p ++ [(i : Int)]).length) := hM7.c.at (o8 (b + 3) (by omega))
      have hm8 := (o8 (b + 4) (by omega)).trans hM7.m
      repeat' first
        | refine CO.cons rfl ?_
        | refine CO.nil ?_
        | refine CV.region callees ?_
        | (refine ⟨_, cell_load agMe hm8 rfl, ?_⟩)
        | fail
      refine (add_spec (c := (i : Int)) (t := -1) (by omega) (by omega) hc8 (hgx8.ints p.length hpl) hgn hgl (fun g d => by have := cntF_bd (gs := gs) (plan := p ++ [(i : Int)]) (i := (p ++ [(i : Int)]).length) (g := g) (c := d); omega) (by omega)).mono ?_
      rintro v9 X9 ⟨hc9, k9⟩
      rw [cntF_snoc, addF_undo] at hc9
      have l9 := k9.1
      have g9 : ∀ x, x < X8.n → x ≠ b + 3 → X9.get x = X8.get x := fun x hx hne => k9.2 x hx hne
      repeat' first
        | refine CO.cons rfl ?_
        | refine CO.nil ?_
        | refine CV.region callees ?_
        | refine ⟨(⟨by omega, by omega⟩ : inI64 _), ?_⟩
        | fail
      refine ⟨(i + 1, q7, pile q7 p.length), (by repeat' first | exact trivial | refine ⟨rfl, ?_⟩ | refine ⟨slot_int (by (try simp only [Int.toNat_natCast]); omega), ?_⟩), (by (try dsimp only); omega), ?_⟩
      refine ⟨by omega, ?_, ⟨(g9 b (by omega) (by omega)).trans ((o8 b (by omega)).trans hM7.s), (g9 (b + 1) (by omega) (by omega)).trans ((o8 (b + 1) (by omega)).trans hM7.g), (g9 (b + 2) (by omega) (by omega)).trans hg8, (g9 (b + 4) (by omega) (by omega)).trans hm8, (g9 (b + 5) (by omega) (by omega)).trans ((o8 (b + 5) (by omega)).trans hM7.f), hc9, .inr ⟨cs7, rfl, (g9 q7 (by omega) (by omega)).trans ((o8 q7 (by omega)).trans b1), ?_, b3, by omega⟩, by omega⟩, by omega⟩
      · rw [walkK_succ]
        exact hJs _ q7 q7 X8 X9 hJ8 l9 (fun x h1 _ _ h => g9 x h1 h) (.inl rfl)
      · have := congrArg (List.take p.length) b2
        rw [List.take_take, Nat.min_eq_left (by omega), ← List.map_take, List.take_append_of_le_length (Nat.le_refl _), List.take_length] at this
        exact this
    obtain rfl : i = m := by omega
    repeat' first
      | refine CO.cons rfl ?_
      | refine CO.nil ?_
      | refine CV.seq ?_
      | refine CV.region callees ?_
      | refine CV.cond ?_
      | refine CV.exit ?_
      | (refine ⟨fun _ => ?_, fun _ => ?_⟩ <;> first | (exfalso; omega) | skip)
      | fail
    exact ⟨rfl, ⟨q, pv, hJ, hM⟩, by omega⟩
set_option maxHeartbeats 32000000 in
set_option maxRecDepth 100000 in
theorem tryPlans_spec [Orc] {S : Type} {B fn K : Nat} {H : Heap} {sv gv : Value} {cap : Array Value} {vs : List Value} {st : List Int} {gs : List (List Int)} {s0 : S} (J : S → Nat → Heap → Prop) (gr : S → List Int → Bool) (nx : S → List Int → S)
    (hb : (Nat.ble 2 fn && Nat.blt fn 155) = true) (hB : B ≤ H.n) (hgo : GsOk gs) (hok : SoOk st) (hK : combos st = (K : Int))
    (hJ0 : ∀ X, Keep H X → J s0 (H.n + 2) X)
    (hJc : ∀ s q X, J s q X → Ints X sv st ∧ Gri X gv vs gs)
    (hJs : ∀ s q q' X X', J s q X → X.n ≤ X'.n → (∀ p, p < X.n → p ≠ q → p ≠ H.n + 2 → p ≠ H.n + 3 → X'.get p = X.get p) → (q' = q ∨ X.n ≤ q') → J s q' X')
    (hY : ∀ s p q pv X, J s q X → MineP H.n sv gv (.func (.func fn) #[] cap) gs p q pv X → B ≤ X.n → p.length ≤ gs.length → CallB Try.prog B fn (pv :: VI (repP gs p) :: cap.toList) X (fun v X' => v = .bool (gr s p) ∧ J (nx s p) q X' ∧ (∀ x, (H.n ≤ x ∧ x < H.n + 6 ∨ x = q) → X'.get x = X.get x) ∧ X.n ≤ X'.n)) :
    CallB Try.prog B 112 [Sev sv gv, .func (.func fn) #[] cap] H (fun _ X' => (∃ q, J (walkP gr nx K gs.length [] s0) q X') ∧ H.n ≤ X'.n) := by
  refine CV.enter callees false (Orc.hv rfl rfl) Try.func112 rfl (by kernel_rfl) (Nat.le_of_ble_eq_true rfl) hB ?_ (Orc.hw rfl rfl)
  repeat' first
    | refine CO.cons rfl ?_
    | refine CV.seq ?_
    | refine CV.region callees ?_
    | fail
  refine ⟨(by simp only [notTuple]), ?_⟩
  rw [boxSe]
  generalize hs0 : Heap.new H _ = H0
  have hg0 := new_get hs0
  have k0 := new_keep hs0
  have n0 := new_n hs0
  repeat' first
    | refine CO.cons rfl ?_
    | fail
  refine ⟨(by rfl), ?_⟩
  generalize hs1' : anew H0 _ _ _ = H1
  have hs1 : H0.new (.cells [.func (.func fn) #[] cap] hT 1) = H1 := hs1'
  have hg1 := new_get hs1
  have k1 := new_keep hs1
  have n1 := new_n hs1
  rw [show H0.n = H.n + 1 by omega] at hg1 ⊢
  repeat' first
    | refine CO.cons rfl ?_
    | refine CO.nil ?_
    | refine CV.seq ?_
    | refine CV.region callees ?_
    | (refine ⟨_, _, al26, ?_⟩)
    | fail
  generalize hs2 : Heap.new H1 _ = H2
  have hg2 := new_get hs2
  have k2 := new_keep hs2
  have n2 := new_n hs2
  rw [show H1.n = H.n + 2 by omega] at hg2 ⊢
  repeat' first
    | fail
  generalize hs3 : Heap.new H2 (.map []) = H3
  have hg3 := new_get hs3
  have k3 := new_keep hs3
  have n3 := new_n hs3
  rw [show H2.n = H.n + 3 by omega] at hg3 ⊢
  repeat' first
    | refine CO.cons rfl ?_
    | (refine ⟨_, _, alMe, ?_⟩)
    | fail
  generalize hs4 : Heap.new H3 _ = H4
  have hg4 := new_get hs4
  have k4 := new_keep hs4
  have n4 := new_n hs4
  rw [show H3.n = H.n + 4 by omega] at hg4 ⊢
  repeat' first
    | fail
  refine ⟨_, _, var_store szMe hg4 rfl, by omega, ?_⟩
  generalize hs5 : Heap.set H4 (H.n + 4) _ = H5
  have hg5 : H5.get (H.n + 4) = some (.cells ([.map (some (H.n + 3))]) eT 1) := set_get hs5
  have n5 := set_n hs5
  have o5 := set_old hs5
  repeat' first
    | refine CO.cons rfl ?_
    | refine CO.nil ?_
    | refine CV.seq ?_
    | refine CV.region callees ?_
    | (refine ⟨_, _, alK, ?_⟩)
    | fail
  generalize hs6 : Heap.new H5 _ = H6
  have hg6 := new_get hs6
  have k6 := new_keep hs6
  have n6 := new_n hs6
  rw [show H5.n = H.n + 5 by omega] at hg6 ⊢
  repeat' first
    | refine CO.cons rfl ?_
    | (refine ⟨(rfl : List.all _ cellLike = true), ?_⟩)
    | fail
  refine ⟨_, _, var_store szK hg6 rfl, by omega, ?_⟩
  generalize hs7 : Heap.set H6 (H.n + 5) _ = H7
  have hg7 : H7.get (H.n + 5) = some (.cells ([tryV H.n]) kT 1) := set_get hs7
  have n7 := set_n hs7
  have o7 := set_old hs7
  have e5 : ∀ x, x < H.n + 4 → H7.get x = H4.get x := fun x hx => (o7 x (by omega)).trans ((k6.2 x (by omega)).trans (o5 x (by omega)))
  have kk : Keep H H7 := ⟨by omega, fun x hx => (e5 x (by omega)).trans ((k4.2 x (by omega)).trans ((k3.2 x (by omega)).trans ((k2.2 x (by omega)).trans ((k1.2 x (by omega)).trans (k0.2 x hx)))))⟩
  have hM : MineP H.n sv gv (.func (.func fn) #[] cap) gs [] (H.n + 2) nilS H7 :=
    ⟨(e5 _ (by omega)).trans ((k4.2 _ (by omega)).trans ((k3.2 _ (by omega)).trans ((k2.2 _ (by omega)).trans ((k1.2 _ (by omega)).trans hg0)))), (e5 _ (by omega)).trans ((k4.2 _ (by omega)).trans ((k3.2 _ (by omega)).trans ((k2.2 _ (by omega)).trans hg1))), (e5 _ (by omega)).trans ((k4.2 _ (by omega)).trans ((k3.2 _ (by omega)).trans hg2)), (o7 _ (by omega)).trans ((k6.2 _ (by omega)).trans hg5), hg7,
      ⟨fun _ => 0, [], (e5 _ (by omega)).trans ((k4.2 _ (by omega)).trans hg3), by simp, fun g c => by simp [cntM, cntF]⟩, .inl ⟨rfl, rfl, rfl⟩, by omega⟩
  have hf := try1_spec (B := B) (b := H.n) (fn := fn) (K := K) J gr nx hb hB hgo hok hK hJc hJs hY gs.length [] s0 (H.n + 2) nilS H7 (by simp) (fun x hx => by cases hx) (hJ0 H7 kk) hM (by omega)
  rw [show repP gs [] = 0 from repP_nil, show ((tak [] : Nat) : Int) = 0 from rfl] at hf
  repeat' first
    | refine CO.cons rfl ?_
    | refine CO.nil ?_
    | refine CV.region callees ?_
    | (refine ⟨_, cell_load agK hg7 rfl, ?_⟩)
    | fail
  refine hf.mono ?_
  rintro v X8 ⟨⟨q, pv, hJ, _⟩, l8⟩
  repeat' first
    | refine CO.nil ?_
    | fail
  exact ⟨rfl, ⟨q, hJ⟩, by omega⟩
end Go.Proofs.Ytijimplcjaeneaa
