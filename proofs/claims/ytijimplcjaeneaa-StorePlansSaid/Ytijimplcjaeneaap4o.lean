
/- The reference's plans. -/
import Derived.Test.Ytijimplcjaeneaap3o
set_option linter.unusedVariables false
set_option linter.unusedSimpArgs false
namespace Go.Proofs.Ytijimplcjaeneaa
open Go.AI
abbrev sT9 : TypeId := 159
theorem foX0 : fieldOff Try.prog sT9 0 = some (0, 2) := by kernel_rfl
theorem foX1 : fieldOff Try.prog sT9 1 = some (2, 1) := by kernel_rfl
theorem foX2 : fieldOff Try.prog sT9 2 = some (3, 1) := by kernel_rfl
theorem foX3 : fieldOff Try.prog sT9 3 = some (4, 1) := by kernel_rfl
abbrev Sxl (s g : Value) (K : Int) (lv : Value) (m : Int) : List Value := [s, g, VI K, lv, VI m]
theorem ldX {H : Heap} {b : Nat} {s g lv : Value} {K m : Int} (hg : H.get b = some (.cells (Sxl s g K lv m) sT9 1)) : aload Try.prog 68 H (.pointer (some ⟨b, 0 + 0, none⟩)) = some (Sev s g) := agg_load agSe szSe hg (by show 0 + 0 + 2 ≤ 5; omega)
theorem walkA_full {gs : List (List Int)} {K r : Nat} {p s : List Int} (h : s.length = gs.length) : walkP (grA gs) (nxA gs) K r p s = s := by
  have hg : grA gs s p = false := by simp [grA, h]
  cases r with
  | zero => simp [walkP, nxA, hg]
  | succ r => simp [walkP, nxA, hg]
theorem walkA_rep {gs : List (List Int)} {K r : Nat} {p s : List Int} (h : 0 < repP gs p) : walkP (grA gs) (nxA gs) K r p s = s := by
  have hg : grA gs s p = false := by simp [grA, h]
  cases r with
  | zero => simp [walkP, nxA, hg]
  | succ r => simp [walkP, nxA, hg]
theorem walkK_full {gs : List (List Int)} {K r : Nat} {p s : List Int} {i : Nat} (h : (walkK (grA gs) (nxA gs) K r p s i).length = gs.length) : ∀ {d : Nat}, walkK (grA gs) (nxA gs) K r p s (i + d) = walkK (grA gs) (nxA gs) K r p s i
  | 0 => rfl
  | d + 1 => by rw [show i + (d + 1) = i + d + 1 by omega, walkK_succ, walkK_full h, walkA_full h]
theorem walkA_le {gs : List (List Int)} {K r : Nat} {p s : List Int} (hp : p.length + r = gs.length) (hs : s.length ≤ gs.length) : (walkP (grA gs) (nxA gs) K r p s).length ≤ gs.length := by
  rw [walkA_nodes hp hs]
  exact updA_le hs fun q hq => by have := nodes_len hq; omega
theorem walkK_le {gs : List (List Int)} {K r : Nat} {p s : List Int} (hp : p.length + (r + 1) = gs.length) (hs : s.length ≤ gs.length) : ∀ {i : Nat}, (walkK (grA gs) (nxA gs) K r p s i).length ≤ gs.length
  | 0 => hs
  | i + 1 => by rw [walkK_succ]; exact walkA_le (by rw [List.length_append, List.length_singleton]; omega) (walkK_le hp hs)
theorem nxA_upd {gs : List (List Int)} {s p : List Int} (hr : repP gs p = 0) (hp : p.length ≤ gs.length) : nxA gs s p = updA s p := by
  unfold nxA updA
  by_cases h2 : s.length = gs.length
  · rw [if_neg (fun h => by omega), if_neg (by omega)]
  · have hg : grA gs s p = true := by simp [grA, hr, h2]
    simp [hg]
theorem walkA_succ {gs : List (List Int)} {K r : Nat} {p s : List Int} (hr : repP gs p = 0) (hp : p.length + (r + 1) = gs.length) : walkP (grA gs) (nxA gs) K (r + 1) p s = walkK (grA gs) (nxA gs) K r p (updA s p) (min (tak p + 1) K) := by
  by_cases h2 : s.length = gs.length
  · have hu : updA s p = s := by unfold updA; rw [if_neg (by omega)]
    rw [walkA_full h2, hu]
    have := walkK_full (gs := gs) (K := K) (r := r) (p := p) (s := s) (i := 0) h2 (d := min (tak p + 1) K)
    rw [Nat.zero_add] at this
    exact this.symm
  · have hg : grA gs s p = true := by simp [grA, hr, h2]
    rw [walkP, if_pos hg, nxA_upd hr (by omega)]
    rfl
theorem tak_bd {K : Nat} {p : List Int} (hp : ∀ x ∈ p, 0 ≤ x ∧ x < K) : tak p ≤ K := by
  have : ∀ (l : List Int) (m : Nat), m ≤ K → (∀ x ∈ l, 0 ≤ x ∧ x < K) → l.foldl (fun (m : Nat) (x : Int) => max m (x.toNat + 1)) m ≤ K := fun l => by
    induction l with
    | nil => intro m hm _; exact hm
    | cons x l ih =>
      intro m hm hl
      have := hl x (by simp)
      exact ih _ (Nat.max_le.2 ⟨hm, by omega⟩) fun y hy => hl y (by simp [hy])
  exact this p 0 (Nat.zero_le _) hp
theorem GsOk.short {gs : List (List Int)} (h : GsOk gs) : ∀ i, i < gs.length → gs[i]!.length < 1000000 := fun i hi => by
  have h2 := cntG_len (k := 12) (h.nd i hi) fun x hx => by have := h.r i hi x hx; omega
  have h3 : ∀ (l : List Int) (k : Nat), cntG l k ≤ k := fun l k => by
    induction k with
    | zero => exact Int.le_refl _
    | succ k ih => rw [cntG]; split <;> omega
  have := h3 gs[i]! 12
  omega
set_option maxHeartbeats 32000000 in
set_option maxRecDepth 100000 in
theorem longest_spec [Orc] {B B0 b K : Nat} {sv gv : Value} {m0 : Int} {vs : List Value} {gs : List (List Int)} (hBb : B ≤ b) (hbB : b < B0) (hgo : GsOk gs) (hK1 : 1 ≤ K) (hK2 : K ≤ 1296) :
    ∀ (r : Nat) (p s : List Int) (pv lv : Value) (X : Heap), p.length + r = gs.length → (∀ x ∈ p, 0 ≤ x ∧ x < K) → repP gs p = 0 → s.length ≤ gs.length → Gri X gv vs gs → Ints X pv p → X.get b = some (.cells (Sxl sv gv K lv m0) sT9 1) → Own 3 X lv (s.map VI) B0 → B0 ≤ X.n → B ≤ X.n →
    CallB Try.prog B 114 [.pointer (some ⟨b, 0, none⟩), pv, VI (tak p : Nat)] X
      (fun _ X' => ∃ lv', X'.get b = some (.cells (Sxl sv gv K lv' m0) sT9 1) ∧ Own 3 X' lv' ((walkP (grA gs) (nxA gs) K r p s).map VI) B0 ∧ KeepX b X X') := by
  have h9 := hgo.n
  intro r
  induction r with
  | zero =>
    intro p s pv lv X hpr hpm hrp hsl hg hp hS ho hX hBX
    have hlr : Ints X lv s := ho.row
    have hw : walkP (grA gs) (nxA gs) K 0 p s = updA s p := by rw [walkP, nxA_upd hrp (by omega)]
    rw [hw]
    refine CV.enter callees false (Orc.hv rfl rfl) Try.func114 rfl (by kernel_rfl) (Nat.le_of_ble_eq_true rfl) hBX ?_ (Orc.hw rfl rfl)
    by_cases h3 : s.length < p.length
    · have e2 : updA s p = p := by unfold updA; rw [if_pos h3]
      rw [e2]
      repeat' first
        | refine CO.cons rfl ?_
        | refine CO.nil ?_
        | refine CV.seq ?_
        | refine CV.region callees ?_
        | refine CV.cond ?_
        | refine ⟨_, ints_len (by assumption), ?_⟩
        | (refine ⟨_, (rfl : nilOk _ = some _), ?_⟩)
        | (refine ⟨_, fS foX2 (by decide), ?_⟩)
        | (refine ⟨_, cell_load agN hS rfl, ?_⟩)
        | (refine ⟨_, _, build_none un22 one3, ?_⟩)
        | (refine ⟨fun _ => ?_, fun _ => ?_⟩ <;> first | (exfalso; omega) | skip)
        | fail
      refine copy_ask un22 one3 (by omega) hp hBX (by rw [List.length_map]; omega) ?_
      intro o H3 ho3 k3
      have l3 := k3.1
      have hS3 := (k3.2 b (by omega)).trans hS
      have hg3 := hg.keep k3
      repeat' first
        | refine CO.cons rfl ?_
        | (refine ⟨_, (rfl : nilOk _ = some _), ?_⟩)
        | (refine ⟨_, fS foX2 (by decide), ?_⟩)
        | fail
      refine ⟨_, _, store_row (i := 0 + 3) sz26 hS3 (by show 0 + 3 < 5; decide) (Row.oneC ho3.row).1, by omega, ?_⟩
      generalize hs4 : Heap.set H3 b _ = H4
      have hg4 : H4.get b = some (.cells (Sxl sv gv K o m0) sT9 1) := set_get hs4
      have n4 := set_n hs4
      have o4 := set_old hs4
      have kk : KeepX b X H4 := ⟨by omega, fun c hc hcb => (o4 c hcb).trans (k3.2 c hc)⟩
      have hg4x : Gri H4 gv vs gs := ⟨Row.keepX hg.row kk hS, hg.len, fun i hi => Row.keepX (hg.ints i hi) kk hS⟩
      have hp4 : Ints H4 pv p := Row.keepX hp kk hS
      have ho4 : Own 3 H4 o (p.map VI) B0 := Own.lower (own_keepF ho3 (by omega) fun c hc => o4 c (by have := (ho3.lt hc).1; omega)) (by omega)
      repeat' first
        | refine CO.cons rfl ?_
        | refine CO.nil ?_
        | refine CV.seq ?_
        | refine CV.region callees ?_
        | refine CV.cond ?_
        | refine CV.ret ?_
        | refine ⟨_, ints_len (by assumption), ?_⟩
        | (refine ⟨_, (rfl : nilOk _ = some _), ?_⟩)
        | (refine ⟨_, fS foX0 (by decide), ?_⟩)
        | (refine ⟨_, fS fe1 (by decide), ?_⟩)
        | (refine ⟨_, cell_load agGr hg4 rfl, ?_⟩)
        | (refine ⟨_, hg4x.alen, ?_⟩)
        | (refine ⟨fun _ => ?_, fun _ => ?_⟩ <;> first | (exfalso; omega) | skip)
        | fail
      exact ⟨rfl, o, hg4, ho4, kk⟩
    · have e2 : updA s p = s := by unfold updA; rw [if_neg h3]
      rw [e2]
      repeat' first
        | refine CO.cons rfl ?_
        | refine CO.nil ?_
        | refine CV.seq ?_
        | refine CV.region callees ?_
        | refine CV.cond ?_
        | refine CV.skip ?_
        | refine CV.ret ?_
        | refine ⟨_, ints_len (by assumption), ?_⟩
        | (refine ⟨_, (rfl : nilOk _ = some _), ?_⟩)
        | (refine ⟨_, fS foX2 (by decide), ?_⟩)
        | (refine ⟨_, cell_load agN hS rfl, ?_⟩)
        | (refine ⟨_, fS foX0 (by decide), ?_⟩)
        | (refine ⟨_, fS fe1 (by decide), ?_⟩)
        | (refine ⟨_, hg.alen, ?_⟩)
        | (refine ⟨fun _ => ?_, fun _ => ?_⟩ <;> first | (exfalso; omega) | skip)
        | fail
      exact ⟨rfl, lv, hS, ho, KeepX.refl _ _⟩
  | succ r ih =>
    intro p s pv lv X hpr hpm hrp hsl hg hp hS ho hX hBX
    have hlr : Ints X lv s := ho.row
    have hpl : p.length < gs.length := by omega
    have htp := tak_bd hpm
    rw [walkA_succ hrp hpr]
    obtain ⟨m, hm⟩ : ∃ m, min (tak p + 1) K = m := ⟨_, rfl⟩
    rw [hm]
    have hX0 := hS
    have hgk : ∀ {H' : Heap}, KeepX b X H' → Gri H' gv vs gs := fun kk => ⟨Row.keepX hg.row kk hX0, hg.len, fun i hi => Row.keepX (hg.ints i hi) kk hX0⟩
    refine CV.enter callees false (Orc.hv rfl rfl) Try.func114 rfl (by kernel_rfl) (Nat.le_of_ble_eq_true rfl) hBX ?_ (Orc.hw rfl rfl)
    refine CV.seq ?_
    refine CV.midK (α := Value) (fun lv1 => [(0, .pointer (some ⟨b, 0, none⟩)), (1, pv), (2, VI (tak p : Nat))]) (fun lv1 Hz => Hz.get b = some (.cells (Sxl sv gv K lv1 m0) sT9 1) ∧ Own 3 Hz lv1 ((updA s p).map VI) B0 ∧ KeepX b X Hz) ?_ ?_
    · by_cases h3 : s.length < p.length
      · have e2 : updA s p = p := by unfold updA; rw [if_pos h3]
        rw [e2]
        repeat' first
          | refine CO.cons rfl ?_
          | refine CO.nil ?_
          | refine CV.seq ?_
          | refine CV.region callees ?_
          | refine CV.cond ?_
          | refine ⟨_, ints_len (by assumption), ?_⟩
          | (refine ⟨_, (rfl : nilOk _ = some _), ?_⟩)
          | (refine ⟨_, fS foX2 (by decide), ?_⟩)
          | (refine ⟨_, cell_load agN hS rfl, ?_⟩)
          | (refine ⟨_, _, build_none un22 one3, ?_⟩)
          | (refine ⟨fun _ => ?_, fun _ => ?_⟩ <;> first | (exfalso; omega) | skip)
          | fail
        refine copy_ask un22 one3 (by omega) hp hBX (by rw [List.length_map]; omega) ?_
        intro o H3 ho3 k3
        have l3 := k3.1
        have hS3 := (k3.2 b (by omega)).trans hS
        repeat' first
          | refine CO.cons rfl ?_
          | (refine ⟨_, (rfl : nilOk _ = some _), ?_⟩)
          | (refine ⟨_, fS foX2 (by decide), ?_⟩)
          | fail
        refine ⟨_, _, store_row (i := 0 + 3) sz26 hS3 (by show 0 + 3 < 5; decide) (Row.oneC ho3.row).1, by omega, ?_⟩
        generalize hs4 : Heap.set H3 b _ = H4
        have hg4 : H4.get b = some (.cells (Sxl sv gv K o m0) sT9 1) := set_get hs4
        have n4 := set_n hs4
        have o4 := set_old hs4
        repeat' first
          | refine CO.nil ?_
          | fail
        refine ⟨(o), (by repeat' first | exact trivial | refine ⟨rfl, ?_⟩), ?_⟩
        exact ⟨hg4, Own.lower (own_keepF ho3 (by omega) fun c hc => o4 c (by have := (ho3.lt hc).1; omega)) (by omega), ⟨by omega, fun c hc hcb => (o4 c hcb).trans (k3.2 c hc)⟩⟩
      · have e2 : updA s p = s := by unfold updA; rw [if_neg h3]
        rw [e2]
        repeat' first
          | refine CO.cons rfl ?_
          | refine CO.nil ?_
          | refine CV.seq ?_
          | refine CV.region callees ?_
          | refine CV.cond ?_
          | refine CV.skip ?_
          | refine ⟨_, ints_len (by assumption), ?_⟩
          | (refine ⟨_, (rfl : nilOk _ = some _), ?_⟩)
          | (refine ⟨_, fS foX2 (by decide), ?_⟩)
          | (refine ⟨_, cell_load agN hS rfl, ?_⟩)
          | (refine ⟨fun _ => ?_, fun _ => ?_⟩ <;> first | (exfalso; omega) | skip)
          | fail
        refine ⟨(lv), (by repeat' first | exact trivial | refine ⟨rfl, ?_⟩), ?_⟩
        exact ⟨hS, ho, KeepX.refl _ _⟩
    clear ho hlr hS
    rintro lv1 X1 ⟨hS1, ho1, kx1⟩ hB1
    have hu : (updA s p).length ≤ gs.length := by unfold updA; split <;> omega
    have hg1 := hgk kx1
    have hp1 : Ints X1 pv p := Row.keepX hp kx1 hX0
    repeat' first
      | refine CO.cons rfl ?_
      | refine CO.nil ?_
      | refine CV.seq ?_
      | refine CV.region callees ?_
      | refine CV.cond ?_
      | refine CV.block ?_
      | refine CV.skip ?_
      | refine ⟨_, ints_len (by assumption), ?_⟩
      | (refine ⟨_, (rfl : nilOk _ = some _), ?_⟩)
      | (refine ⟨_, fS foX0 (by decide), ?_⟩)
      | (refine ⟨_, fS fe1 (by decide), ?_⟩)
      | (refine ⟨_, cell_load agGr hS1 rfl, ?_⟩)
      | (refine ⟨_, hg1.alen, ?_⟩)
      | (refine ⟨fun _ => ?_, fun _ => ?_⟩ <;> first | (exfalso; omega) | skip)
      | fail
    generalize updA s p = s1 at ho1 hu ⊢
    refine CV.loopc ?_
    refine WCv.rounds callees false (α := Nat × Value) (fun (i, lv) => [(0, .pointer (some ⟨b, 0, none⟩)), (1, pv), (2, VI (tak p : Nat)), (6, VI i)]) (fun (i, lv) Hz => i ≤ m ∧ Hz.get b = some (.cells (Sxl sv gv K lv m0) sT9 1) ∧ Own 3 Hz lv ((walkK (grA gs) (nxA gs) K r p s1 i).map VI) B0 ∧ KeepX b X Hz) (fun (i, lv) => m - i) (0, lv1) (by repeat' first | exact trivial | refine ⟨rfl, ?_⟩ | refine ⟨slot_int (by (try simp only [Int.toNat_natCast]); omega), ?_⟩) ?_ ?_
    · exact ⟨by omega, hS1, ho1, kx1⟩
    clear hS1 ho1 kx1 hg1 hp1
    rintro ⟨i, lv⟩ Hx ⟨hi, hS, ho, kx⟩ hBx
    have lx := kx.1
    have hgx := hgk kx
    have hpx : Ints Hx pv p := Row.keepX hp kx hX0
    have hlr : Ints Hx lv (walkK (grA gs) (nxA gs) K r p s1 i) := ho.row
    have hle := walkK_le (gs := gs) (K := K) (r := r) (p := p) (s := s1) hpr hu (i := i)
    have hfull := walkK_full (gs := gs) (K := K) (r := r) (p := p) (s := s1) (i := i)
    obtain ⟨si, hsi⟩ : ∃ si, walkK (grA gs) (nxA gs) K r p s1 i = si := ⟨_, rfl⟩
    rw [hsi] at ho hlr hle hfull
    by_cases hi2 : i < m
    rotate_left
    · obtain rfl : i = m := by omega
      rw [hsi]
      repeat' first
        | refine CO.nil ?_
        | refine CV.seq ?_
        | refine CV.cond ?_
        | refine CV.exit ?_
        | refine CV.draw callees (by decide +kernel) ?_
        | refine CH.cons rfl ?_
        | refine CH.nil ?_
        | refine CH.consG rfl ?_
        | refine ⟨(⟨by omega, by omega⟩ : inI64 _), ?_⟩
        | refine ⟨_, fun tm ha => step1_min rfl (ev_tmp ha rfl) (ev_tmp ha rfl), ?_⟩
        | (refine ⟨_, (rfl : nilOk _ = some _), ?_⟩)
        | (refine ⟨_, fS foX1 (by decide), ?_⟩)
        | (refine ⟨_, cell_load ag3 hS rfl, ?_⟩)
        | (refine ⟨fun _ => ?_, fun _ => ?_⟩ <;> first | (exfalso; omega) | skip)
        | fail
      exact ⟨rfl, lv, hS, ho, kx⟩
    by_cases hsf : si.length = gs.length
    · have := hfull hsf (d := m - i)
      rw [show i + (m - i) = m by omega] at this
      rw [this]
      repeat' first
        | refine CO.nil ?_
        | refine CV.seq ?_
        | refine CV.cond ?_
        | refine CV.exit ?_
        | refine CV.draw callees (by decide +kernel) ?_
        | refine CH.cons rfl ?_
        | refine CH.nil ?_
        | refine CH.consG rfl ?_
        | refine ⟨_, ints_len (by assumption), ?_⟩
        | refine ⟨(⟨by omega, by omega⟩ : inI64 _), ?_⟩
        | refine ⟨_, fun tm ha => step1_min rfl (ev_tmp ha rfl) (ev_tmp ha rfl), ?_⟩
        | (refine ⟨_, (rfl : nilOk _ = some _), ?_⟩)
        | (refine ⟨_, fS foX1 (by decide), ?_⟩)
        | (refine ⟨_, cell_load ag3 hS rfl, ?_⟩)
        | (refine ⟨_, fS foX2 (by decide), ?_⟩)
        | (refine ⟨_, fS foX0 (by decide), ?_⟩)
        | (refine ⟨_, fS fe1 (by decide), ?_⟩)
        | (refine ⟨_, hgx.alen, ?_⟩)
        | (refine ⟨fun _ => ?_, fun _ => ?_⟩ <;> first | (exfalso; omega) | skip)
        | fail
      exact ⟨rfl, lv, hS, ho, kx⟩
    clear hfull
    have hsucc : walkK (grA gs) (nxA gs) K r p s1 (i + 1) = walkP (grA gs) (nxA gs) K r (p ++ [(i : Int)]) si := by rw [walkK_succ, hsi]
    repeat' first
      | refine CO.cons rfl ?_
      | refine CO.nil ?_
      | refine CV.seq ?_
      | refine CV.region callees ?_
      | refine CV.cond ?_
      | refine CV.block ?_
      | refine CV.skip ?_
      | refine CV.draw callees (by decide +kernel) ?_
      | refine CH.cons rfl ?_
      | refine CH.nil ?_
      | refine CH.consG rfl ?_
      | refine ⟨_, ints_len (by assumption), ?_⟩
      | refine ⟨(⟨by omega, by omega⟩ : inI64 _), ?_⟩
      | refine ⟨_, fun tm ha => step1_min rfl (ev_tmp ha rfl) (ev_tmp ha rfl), ?_⟩
      | (refine ⟨_, (rfl : nilOk _ = some _), ?_⟩)
      | (refine ⟨_, fS foX1 (by decide), ?_⟩)
      | (refine ⟨_, cell_load ag3 hS rfl, ?_⟩)
      | (refine ⟨_, fS foX2 (by decide), ?_⟩)
      | (refine ⟨_, fS foX0 (by decide), ?_⟩)
      | (refine ⟨_, fS fe1 (by decide), ?_⟩)
      | (refine ⟨_, hgx.alen, ?_⟩)
      | (refine ⟨_, _, build_none un22 one3, ?_⟩)
      | (refine ⟨fun _ => ?_, fun _ => ?_⟩ <;> first | (exfalso; omega) | skip)
      | fail
    refine copy_ask un22 one3 (by omega) hpx hBx (by rw [List.length_map]; omega) ?_
    intro o H3 ho3 k3
    have l3 := k3.1
    repeat' first
      | refine CO.cons rfl ?_
      | (refine ⟨_, _, build_one un22 one3 rfl, ?_⟩)
      | fail
    refine push_ask (y := (i : Int)) ho3 k3.1 hBx (by omega) ?_
    intro o4 H4 ho4 kb4 hf4
    have k4 : Keep Hx H4 := kb4.keep k3 (fun z hz => (ho3.lt hz).1)
    have l4 := k4.1
    have hS4 := (k4.2 b (by omega)).trans hS
    have hg4 := hgx.keep k4
    have ho4r : Ints H4 o4 (p ++ [(i : Int)]) := ho4.row
    have hp4 : Ints H4 pv p := Row.keep hpx k4
    repeat' first
      | refine CO.cons rfl ?_
      | refine CO.nil ?_
      | refine CV.seq ?_
      | refine CV.region callees ?_
      | refine ⟨_, ints_len (by assumption), ?_⟩
      | (refine ⟨_, (rfl : nilOk _ = some _), ?_⟩)
      | (refine ⟨_, fS foX0 (by decide), ?_⟩)
      | (refine ⟨_, ldX hS4, ?_⟩)
      | fail
    refine (repeated_spec (n := p.length) (by omega) hg4 ho4r hpl (by simp) (by omega) hgo.short (fun y hy => (hgo.r p.length hpl y hy).1)).mono ?_
    rw [againL_snoc]
    rintro v5 X5 ⟨rfl, k5⟩
    have l5 := k5.1
    have hS5 := (k5.2 b (by omega)).trans hS4
    have ho5 : Own 3 X5 lv (si.map VI) B0 := (ho.keep k4).keep k5
    have kx5 : KeepX b X X5 := ⟨by omega, fun c hc hcb => (k5.2 c (by omega)).trans ((k4.2 c (by omega)).trans (kx.2 c hc hcb))⟩
    by_cases hz : (againP gs p (i : Int)).length = 0
    · have hr1 : repP gs (p ++ [(i : Int)]) = 0 := by rw [repP_snoc, hrp, hz]; rfl
      have hih := ih (p ++ [(i : Int)]) si o4 lv X5 (by rw [List.length_append, List.length_singleton]; omega) (fun x hx => by
        rcases List.mem_append.1 hx with h | h
        · exact hpm x h
        · rw [List.mem_singleton] at h; omega) hr1 (by omega) (hg4.keep k5) (Row.keep ho4r k5) hS5 ho5 (by omega) (by omega)
      rw [show ((tak (p ++ [(i : Int)]) : Nat) : Int) = max (tak p : Int) ((i : Int) + 1) by rw [tak_snoc]; omega, ← hsucc] at hih
      repeat' first
        | refine CO.cons rfl ?_
        | refine CO.nil ?_
        | refine CV.seq ?_
        | refine CV.region callees ?_
        | refine CV.cond ?_
        | refine ⟨(⟨by omega, by omega⟩ : inI64 _), ?_⟩
        | refine ⟨_, fun tm ha => step1_max rfl (ev_tmp ha rfl) (ev_tmp ha rfl), ?_⟩
        | (refine ⟨fun _ => ?_, fun _ => ?_⟩ <;> first | (exfalso; omega) | skip)
        | fail
      refine hih.mono ?_
      rintro v6 X6 ⟨lv6, hS6, ho6, kx6⟩
      repeat' first
        | refine CO.cons rfl ?_
        | refine CO.nil ?_
        | refine CV.region callees ?_
        | refine ⟨(⟨by omega, by omega⟩ : inI64 _), ?_⟩
        | fail
      refine ⟨(i + 1, lv6), (by repeat' first | exact trivial | refine ⟨rfl, ?_⟩ | refine ⟨slot_int (by (try simp only [Int.toNat_natCast]); omega), ?_⟩), (by (try dsimp only); omega), ?_⟩
      exact ⟨by omega, hS6, ho6, kx5.trans kx6⟩
    · have hr1 : 0 < repP gs (p ++ [(i : Int)]) := by rw [repP_snoc, hrp]; omega
      rw [walkA_rep hr1] at hsucc
      repeat' first
        | refine CO.cons rfl ?_
        | refine CO.nil ?_
        | refine CV.seq ?_
        | refine CV.region callees ?_
        | refine CV.cond ?_
        | refine CV.skip ?_
        | refine ⟨(⟨by omega, by omega⟩ : inI64 _), ?_⟩
        | (refine ⟨fun _ => ?_, fun _ => ?_⟩ <;> first | (exfalso; omega) | skip)
        | fail
      refine ⟨(i + 1, lv), (by repeat' first | exact trivial | refine ⟨rfl, ?_⟩ | refine ⟨slot_int (by (try simp only [Int.toNat_natCast]); omega), ?_⟩), (by (try dsimp only); omega), ?_⟩
      exact ⟨by omega, hS5, by rw [hsucc]; exact ho5, kx5⟩
/-- How many repeats the best plan has: -1 if there is none. -/
def mmO (m : Int) : Int := if m = 108 then -1 else m
theorem walkB_le {gs : List (List Int)} {K : Nat} : ∀ {r : Nat} {p : List Int} {s : List Int × Int}, p.length + r = gs.length → (0 ≤ s.2 ∧ s.2 ≤ 108) → 0 ≤ (walkP (grB gs) (nxB gs) K r p s).2 ∧ (walkP (grB gs) (nxB gs) K r p s).2 ≤ 108 := by
  intro r p s hp hs
  rw [walkB_gen hp]
  obtain ⟨h1, h2, h3⟩ := updB_min (gs := gs) (L := genK K r p) (s := s) rfl
  refine ⟨?_, by omega⟩
  rcases h3 with h3 | ⟨_, h4, _⟩
  · rw [h3]; exact hs.1
  · rw [h4]; exact repP_nonneg
set_option maxHeartbeats 32000000 in
set_option maxRecDepth 100000 in
theorem few1_spec [Orc] {B B0 b K : Nat} {sv gv : Value} {vs : List Value} {gs : List (List Int)} (hBb : B ≤ b) (hbB : b < B0) (hgo : GsOk gs) (hK1 : 1 ≤ K) (hK2 : K ≤ 1296) :
    ∀ (r : Nat) (p : List Int) (s : List Int × Int) (pv lv : Value) (X : Heap), p.length + r = gs.length → (∀ x ∈ p, 0 ≤ x ∧ x < K) → (0 ≤ s.2 ∧ s.2 ≤ 108) → Gri X gv vs gs → Ints X pv p → X.get b = some (.cells (Sxl sv gv K lv (mmO s.2)) sT9 1) → Own 3 X lv (s.1.map VI) B0 → B0 ≤ X.n → B ≤ X.n →
    CallB Try.prog B 116 [.pointer (some ⟨b, 0, none⟩), pv, VI (tak p : Nat), VI (repP gs p)] X
      (fun _ X' => ∃ lv', X'.get b = some (.cells (Sxl sv gv K lv' (mmO (walkP (grB gs) (nxB gs) K r p s).2)) sT9 1) ∧ Own 3 X' lv' ((walkP (grB gs) (nxB gs) K r p s).1.map VI) B0 ∧ KeepX b X X') := by
  have h9 := hgo.n
  intro r
  induction r with
  | zero =>
    intro p s pv lv X hpr hpm hsb hg hp hS ho hX hBX
    have hrb := repP_lt hgo (p := p) (by omega)
    have hw : walkP (grB gs) (nxB gs) K 0 p s = nxB gs s p := rfl
    rw [hw]
    refine CV.enter callees false (Orc.hv rfl rfl) Try.func116 rfl (by kernel_rfl) (Nat.le_of_ble_eq_true rfl) hBX ?_ (Orc.hw rfl rfl)
    by_cases h0 : s.2 ≤ repP gs p
    · have e1 : grB gs s p = false := by simp [grB, h0]
      have e2 : nxB gs s p = s := by simp [nxB, e1]
      rw [e2]
      have hmm : mmO s.2 = s.2 := by unfold mmO; rw [if_neg (by omega)]
      rw [hmm] at hS ⊢
      repeat' first
        | refine CO.cons rfl ?_
        | refine CO.nil ?_
        | refine CV.seq ?_
        | refine CV.region callees ?_
        | refine CV.cond ?_
        | refine CV.ret ?_
        | refine CO.consG rfl ?_
        | (refine ⟨_, (rfl : nilOk _ = some _), ?_⟩)
        | (refine ⟨_, fS foX3 (by decide), ?_⟩)
        | (refine ⟨_, cell_load ag3 hS rfl, ?_⟩)
        | (refine ⟨fun _ => ?_, fun _ => ?_⟩ <;> first | (exfalso; omega) | skip)
        | fail
      exact ⟨rfl, lv, hS, ho, KeepX.refl _ _⟩
    have e1 : grB gs s p = true := by simp [grB]; omega
    have e2 : nxB gs s p = (p, repP gs p) := by unfold nxB; rw [if_pos ⟨e1, by omega⟩]
    rw [e2]
    have hmr : mmO (repP gs p) = repP gs p := by unfold mmO; rw [if_neg (by omega)]
    have hmm : mmO s.2 = -1 ∨ repP gs p < mmO s.2 := by unfold mmO; split <;> omega
    generalize mmO s.2 = mm at hmm hS
    simp only [hmr]
    by_cases hm0 : 0 ≤ mm
    · have hm1 : repP gs p < mm := by omega
      repeat' first
        | refine CO.cons rfl ?_
        | refine CO.nil ?_
        | refine CV.seq ?_
        | refine CV.region callees ?_
        | refine CV.cond ?_
        | refine CV.skip ?_
        | refine CO.consG rfl ?_
        | refine ⟨_, ints_len (by assumption), ?_⟩
        | (refine ⟨_, (rfl : nilOk _ = some _), ?_⟩)
        | (refine ⟨_, fS foX3 (by decide), ?_⟩)
        | (refine ⟨_, cell_load ag3 hS rfl, ?_⟩)
        | (refine ⟨_, fS foX0 (by decide), ?_⟩)
        | (refine ⟨_, fS fe1 (by decide), ?_⟩)
        | (refine ⟨_, hg.alen, ?_⟩)
        | (refine ⟨_, _, build_none un22 one3, ?_⟩)
        | (refine ⟨fun _ => ?_, fun _ => ?_⟩ <;> first | (exfalso; omega) | skip)
        | fail
      refine copy_ask un22 one3 (by omega) hp hBX (by rw [List.length_map]; omega) ?_
      intro o H3 ho3 k3
      have l3 := k3.1
      have hS3 := (k3.2 b (by omega)).trans hS
      repeat' first
        | refine CO.cons rfl ?_
        | (refine ⟨_, (rfl : nilOk _ = some _), ?_⟩)
        | (refine ⟨_, fS foX2 (by decide), ?_⟩)
        | fail
      refine ⟨_, _, store_row (i := 0 + 3) sz26 hS3 (by show 0 + 3 < 5; decide) (Row.oneC ho3.row).1, by omega, ?_⟩
      generalize hs4 : Heap.set H3 b _ = H4
      have hg4 : H4.get b = some (.cells (Sxl sv gv K o mm) sT9 1) := set_get hs4
      have n4 := set_n hs4
      have o4 := set_old hs4
      repeat' first
        | refine CO.cons rfl ?_
        | (refine ⟨_, (rfl : nilOk _ = some _), ?_⟩)
        | (refine ⟨_, fS foX3 (by decide), ?_⟩)
        | fail
      refine ⟨_, _, store_row (i := 0 + 4) sz3 hg4 (by show 0 + 4 < 5; decide) rfl, by omega, ?_⟩
      generalize hs5 : Heap.set H4 b _ = H5
      have hg5 : H5.get b = some (.cells (Sxl sv gv K o (repP gs p)) sT9 1) := set_get hs5
      have n5 := set_n hs5
      have o5 := set_old hs5
      repeat' first
        | refine CO.nil ?_
        | refine CV.ret ?_
        | fail
      exact ⟨rfl, o, hg5, Own.lower (own_keepF ho3 (by omega) fun c hc => (o5 c (by have := (ho3.lt hc).1; omega)).trans (o4 c (by have := (ho3.lt hc).1; omega))) (by omega), ⟨by omega, fun c hc hcb => (o5 c hcb).trans ((o4 c hcb).trans (k3.2 c hc))⟩⟩
    · repeat' first
        | refine CO.cons rfl ?_
        | refine CO.nil ?_
        | refine CV.seq ?_
        | refine CV.region callees ?_
        | refine CV.cond ?_
        | refine CV.skip ?_
        | refine CO.consG rfl ?_
        | refine ⟨_, ints_len (by assumption), ?_⟩
        | (refine ⟨_, (rfl : nilOk _ = some _), ?_⟩)
        | (refine ⟨_, fS foX3 (by decide), ?_⟩)
        | (refine ⟨_, cell_load ag3 hS rfl, ?_⟩)
        | (refine ⟨_, fS foX0 (by decide), ?_⟩)
        | (refine ⟨_, fS fe1 (by decide), ?_⟩)
        | (refine ⟨_, hg.alen, ?_⟩)
        | (refine ⟨_, _, build_none un22 one3, ?_⟩)
        | (refine ⟨fun _ => ?_, fun _ => ?_⟩ <;> first | (exfalso; omega) | skip)
        | fail
      refine copy_ask un22 one3 (by omega) hp hBX (by rw [List.length_map]; omega) ?_
      intro o H3 ho3 k3
      have l3 := k3.1
      have hS3 := (k3.2 b (by omega)).trans hS
      repeat' first
        | refine CO.cons rfl ?_
        | (refine ⟨_, (rfl : nilOk _ = some _), ?_⟩)
        | (refine ⟨_, fS foX2 (by decide), ?_⟩)
        | fail
      refine ⟨_, _, store_row (i := 0 + 3) sz26 hS3 (by show 0 + 3 < 5; decide) (Row.oneC ho3.row).1, by omega, ?_⟩
      generalize hs4 : Heap.set H3 b _ = H4
      have hg4 : H4.get b = some (.cells (Sxl sv gv K o mm) sT9 1) := set_get hs4
      have n4 := set_n hs4
      have o4 := set_old hs4
      repeat' first
        | refine CO.cons rfl ?_
        | (refine ⟨_, (rfl : nilOk _ = some _), ?_⟩)
        | (refine ⟨_, fS foX3 (by decide), ?_⟩)
        | fail
      refine ⟨_, _, store_row (i := 0 + 4) sz3 hg4 (by show 0 + 4 < 5; decide) rfl, by omega, ?_⟩
      generalize hs5 : Heap.set H4 b _ = H5
      have hg5 : H5.get b = some (.cells (Sxl sv gv K o (repP gs p)) sT9 1) := set_get hs5
      have n5 := set_n hs5
      have o5 := set_old hs5
      repeat' first
        | refine CO.nil ?_
        | refine CV.ret ?_
        | fail
      exact ⟨rfl, o, hg5, Own.lower (own_keepF ho3 (by omega) fun c hc => (o5 c (by have := (ho3.lt hc).1; omega)).trans (o4 c (by have := (ho3.lt hc).1; omega))) (by omega), ⟨by omega, fun c hc hcb => (o5 c hcb).trans ((o4 c hcb).trans (k3.2 c hc))⟩⟩
  | succ r ih =>
    intro p s pv lv X hpr hpm hsb hg hp hS ho hX hBX
    have hrb := repP_lt hgo (p := p) (by omega)
    have hpl : p.length < gs.length := by omega
    have htp := tak_bd hpm
    have hX0 := hS
    have hgk : ∀ {H' : Heap}, KeepX b X H' → Gri H' gv vs gs := fun kk => ⟨Row.keepX hg.row kk hX0, hg.len, fun i hi => Row.keepX (hg.ints i hi) kk hX0⟩
    refine CV.enter callees false (Orc.hv rfl rfl) Try.func116 rfl (by kernel_rfl) (Nat.le_of_ble_eq_true rfl) hBX ?_ (Orc.hw rfl rfl)
    by_cases h0 : s.2 ≤ repP gs p
    · have e1 : grB gs s p = false := by simp [grB, h0]
      have e2 : walkP (grB gs) (nxB gs) K (r + 1) p s = s := by simp [walkP, nxB, e1]
      rw [e2]
      have hmm : mmO s.2 = s.2 := by unfold mmO; rw [if_neg (by omega)]
      rw [hmm] at hS ⊢
      repeat' first
        | refine CO.cons rfl ?_
        | refine CO.nil ?_
        | refine CV.seq ?_
        | refine CV.region callees ?_
        | refine CV.cond ?_
        | refine CV.ret ?_
        | refine CO.consG rfl ?_
        | (refine ⟨_, (rfl : nilOk _ = some _), ?_⟩)
        | (refine ⟨_, fS foX3 (by decide), ?_⟩)
        | (refine ⟨_, cell_load ag3 hS rfl, ?_⟩)
        | (refine ⟨fun _ => ?_, fun _ => ?_⟩ <;> first | (exfalso; omega) | skip)
        | fail
      exact ⟨rfl, lv, hS, ho, KeepX.refl _ _⟩
    have e1 : grB gs s p = true := by simp [grB]; omega
    have hn : nxB gs s p = s := by unfold nxB; rw [if_neg (by omega)]
    have hw : walkP (grB gs) (nxB gs) K (r + 1) p s = walkK (grB gs) (nxB gs) K r p s (min (tak p + 1) K) := by rw [walkP, if_pos e1, hn]; rfl
    rw [hw]
    clear hw
    obtain ⟨m, hm⟩ : ∃ m, min (tak p + 1) K = m := ⟨_, rfl⟩
    rw [hm]
    have hmm : mmO s.2 = -1 ∨ repP gs p < mmO s.2 := by unfold mmO; split <;> omega
    have hmm2 : mmO (walkK (grB gs) (nxB gs) K r p s 0).2 = mmO s.2 := rfl
    obtain ⟨mm, hmv⟩ : ∃ mm, mmO s.2 = mm := ⟨_, rfl⟩
    rw [hmv] at hmm hS hmm2
    by_cases hm0 : 0 ≤ mm
    · have hm1 : repP gs p < mm := by omega
      repeat' first
        | refine CO.cons rfl ?_
        | refine CO.nil ?_
        | refine CV.seq ?_
        | refine CV.region callees ?_
        | refine CV.cond ?_
        | refine CV.block ?_
        | refine CV.skip ?_
        | refine CO.consG rfl ?_
        | refine ⟨_, ints_len (by assumption), ?_⟩
        | (refine ⟨_, (rfl : nilOk _ = some _), ?_⟩)
        | (refine ⟨_, fS foX3 (by decide), ?_⟩)
        | (refine ⟨_, cell_load ag3 hS rfl, ?_⟩)
        | (refine ⟨_, fS foX0 (by decide), ?_⟩)
        | (refine ⟨_, fS fe1 (by decide), ?_⟩)
        | (refine ⟨_, hg.alen, ?_⟩)
        | (refine ⟨fun _ => ?_, fun _ => ?_⟩ <;> first | (exfalso; omega) | skip)
        | fail
      refine CV.loopc ?_
      refine WCv.rounds callees false (α := Nat × Value) (fun (i, lv) => [(0, .pointer (some ⟨b, 0, none⟩)), (1, pv), (2, VI (tak p : Nat)), (3, VI (repP gs p)), (8, VI i)]) (fun (i, lv) Hz => i ≤ m ∧ Hz.get b = some (.cells (Sxl sv gv K lv (mmO (walkK (grB gs) (nxB gs) K r p s i).2)) sT9 1) ∧ (0 ≤ (walkK (grB gs) (nxB gs) K r p s i).2 ∧ (walkK (grB gs) (nxB gs) K r p s i).2 ≤ 108) ∧ Own 3 Hz lv ((walkK (grB gs) (nxB gs) K r p s i).1.map VI) B0 ∧ KeepX b X Hz) (fun (i, lv) => m - i) (0, lv) (by repeat' first | exact trivial | refine ⟨rfl, ?_⟩ | refine ⟨slot_int (by (try simp only [Int.toNat_natCast]); omega), ?_⟩) ?_ ?_
      · exact ⟨by omega, by rw [hmm2]; exact hS, hsb, ho, KeepX.refl _ _⟩
      clear hS ho hg
      rintro ⟨i, lv⟩ Hx ⟨hi, hS, hsb, ho, kx⟩ hBx
      have lx := kx.1
      have hgx := hgk kx
      have hpx : Ints Hx pv p := Row.keepX hp kx hX0
      obtain ⟨si, hsi⟩ : ∃ si, walkK (grB gs) (nxB gs) K r p s i = si := ⟨_, rfl⟩
      rw [hsi] at hS hsb ho
      obtain ⟨ms, hms⟩ : ∃ ms, mmO si.2 = ms := ⟨_, rfl⟩
      by_cases hi2 : i < m
      rotate_left
      · obtain rfl : i = m := by omega
        rw [hsi]
        repeat' first
          | refine CO.cons rfl ?_
          | refine CO.nil ?_
          | refine CV.seq ?_
          | refine CV.region callees ?_
          | refine CV.cond ?_
          | refine CV.exit ?_
          | refine ⟨(⟨by omega, by omega⟩ : inI64 _), ?_⟩
          | refine ⟨_, fun tm ha => step1_min rfl (ev_tmp ha rfl) (ev_tmp ha rfl), ?_⟩
          | (refine ⟨_, (rfl : nilOk _ = some _), ?_⟩)
          | (refine ⟨_, fS foX1 (by decide), ?_⟩)
          | (refine ⟨_, cell_load ag3 hS rfl, ?_⟩)
          | (refine ⟨fun _ => ?_, fun _ => ?_⟩ <;> first | (exfalso; omega) | skip)
          | fail
        exact ⟨rfl, lv, hS, ho, kx⟩
      have hsucc : walkK (grB gs) (nxB gs) K r p s (i + 1) = walkP (grB gs) (nxB gs) K r (p ++ [(i : Int)]) si := by rw [walkK_succ, hsi]
      have hpb : (p ++ [(i : Int)]).length + r = gs.length := by rw [List.length_append, List.length_singleton]; omega
      have hsb2 := walkB_le (gs := gs) (K := K) hpb hsb
      repeat' first
        | refine CO.cons rfl ?_
        | refine CO.nil ?_
        | refine CV.seq ?_
        | refine CV.region callees ?_
        | refine CV.cond ?_
        | refine CV.block ?_
        | refine CV.skip ?_
        | refine ⟨(⟨by omega, by omega⟩ : inI64 _), ?_⟩
        | refine ⟨_, fun tm ha => step1_min rfl (ev_tmp ha rfl) (ev_tmp ha rfl), ?_⟩
        | (refine ⟨_, (rfl : nilOk _ = some _), ?_⟩)
        | (refine ⟨_, fS foX1 (by decide), ?_⟩)
        | (refine ⟨_, cell_load ag3 hS rfl, ?_⟩)
        | (refine ⟨_, _, build_none un22 one3, ?_⟩)
        | (refine ⟨fun _ => ?_, fun _ => ?_⟩ <;> first | (exfalso; omega) | skip)
        | fail
      refine copy_ask un22 one3 (by omega) hpx hBx (by rw [List.length_map]; omega) ?_
      intro o H3 ho3 k3
      have l3 := k3.1
      repeat' first
        | refine CO.cons rfl ?_
        | (refine ⟨_, _, build_one un22 one3 rfl, ?_⟩)
        | fail
      refine push_ask (y := (i : Int)) ho3 k3.1 hBx (by omega) ?_
      intro o4 H4 ho4 kb4 hf4
      have k4 : Keep Hx H4 := kb4.keep k3 (fun z hz => (ho3.lt hz).1)
      have l4 := k4.1
      have hS4 := (k4.2 b (by omega)).trans hS
      have hg4 := hgx.keep k4
      have ho4r : Ints H4 o4 (p ++ [(i : Int)]) := ho4.row
      have hp4 : Ints H4 pv p := Row.keep hpx k4
      repeat' first
        | refine CO.cons rfl ?_
        | refine CO.nil ?_
        | refine CV.seq ?_
        | refine CV.region callees ?_
        | refine ⟨_, ints_len (by assumption), ?_⟩
        | (refine ⟨_, (rfl : nilOk _ = some _), ?_⟩)
        | (refine ⟨_, fS foX0 (by decide), ?_⟩)
        | (refine ⟨_, ldX hS4, ?_⟩)
        | fail
      refine (repeated_spec (n := p.length) (by omega) hg4 ho4r hpl (by simp) (by omega) hgo.short (fun y hy => (hgo.r p.length hpl y hy).1)).mono ?_
      rw [againL_snoc]
      rintro v5 X5 ⟨rfl, k5⟩
      have l5 := k5.1
      have hS5 := (k5.2 b (by omega)).trans hS4
      have ho5 : Own 3 X5 lv (si.1.map VI) B0 := (ho.keep k4).keep k5
      have kx5 : KeepX b X X5 := ⟨by omega, fun c hc hcb => (k5.2 c (by omega)).trans ((k4.2 c (by omega)).trans (kx.2 c hc hcb))⟩
      have hag := again_le hgo (p := p) (c := (i : Int)) hpl
      have hih := ih (p ++ [(i : Int)]) si o4 lv X5 hpb (fun x hx => by
        rcases List.mem_append.1 hx with h | h
        · exact hpm x h
        · rw [List.mem_singleton] at h; omega) hsb (hg4.keep k5) (Row.keep ho4r k5) hS5 ho5 (by omega) (by omega)
      rw [show ((tak (p ++ [(i : Int)]) : Nat) : Int) = max (tak p : Int) ((i : Int) + 1) by rw [tak_snoc]; omega, repP_snoc, ← hsucc] at hih
      rw [← hsucc] at hsb2
      repeat' first
        | refine CO.cons rfl ?_
        | refine CO.nil ?_
        | refine CV.region callees ?_
        | refine ⟨(⟨by omega, by omega⟩ : inI64 _), ?_⟩
        | refine ⟨_, fun tm ha => step1_max rfl (ev_tmp ha rfl) (ev_tmp ha rfl), ?_⟩
        | fail
      refine hih.mono ?_
      rintro v6 X6 ⟨lv6, hS6, ho6, kx6⟩
      repeat' first
        | refine CO.cons rfl ?_
        | refine CO.nil ?_
        | refine CV.region callees ?_
        | refine ⟨(⟨by omega, by omega⟩ : inI64 _), ?_⟩
        | fail
      refine ⟨(i + 1, lv6), (by repeat' first | exact trivial | refine ⟨rfl, ?_⟩ | refine ⟨slot_int (by (try simp only [Int.toNat_natCast]); omega), ?_⟩), (by (try dsimp only); omega), ?_⟩
      exact ⟨by omega, hS6, hsb2, ho6, kx5.trans kx6⟩
    · repeat' first
        | refine CO.cons rfl ?_
        | refine CO.nil ?_
        | refine CV.seq ?_
        | refine CV.region callees ?_
        | refine CV.cond ?_
        | refine CV.block ?_
        | refine CV.skip ?_
        | refine CO.consG rfl ?_
        | refine ⟨_, ints_len (by assumption), ?_⟩
        | (refine ⟨_, (rfl : nilOk _ = some _), ?_⟩)
        | (refine ⟨_, fS foX3 (by decide), ?_⟩)
        | (refine ⟨_, cell_load ag3 hS rfl, ?_⟩)
        | (refine ⟨_, fS foX0 (by decide), ?_⟩)
        | (refine ⟨_, fS fe1 (by decide), ?_⟩)
        | (refine ⟨_, hg.alen, ?_⟩)
        | (refine ⟨fun _ => ?_, fun _ => ?_⟩ <;> first | (exfalso; omega) | skip)
        | fail
      refine CV.loopc ?_
      refine WCv.rounds callees false (α := Nat × Value) (fun (i, lv) => [(0, .pointer (some ⟨b, 0, none⟩)), (1, pv), (2, VI (tak p : Nat)), (3, VI (repP gs p)), (8, VI i)]) (fun (i, lv) Hz => i ≤ m ∧ Hz.get b = some (.cells (Sxl sv gv K lv (mmO (walkK (grB gs) (nxB gs) K r p s i).2)) sT9 1) ∧ (0 ≤ (walkK (grB gs) (nxB gs) K r p s i).2 ∧ (walkK (grB gs) (nxB gs) K r p s i).2 ≤ 108) ∧ Own 3 Hz lv ((walkK (grB gs) (nxB gs) K r p s i).1.map VI) B0 ∧ KeepX b X Hz) (fun (i, lv) => m - i) (0, lv) (by repeat' first | exact trivial | refine ⟨rfl, ?_⟩ | refine ⟨slot_int (by (try simp only [Int.toNat_natCast]); omega), ?_⟩) ?_ ?_
      · exact ⟨by omega, by rw [hmm2]; exact hS, hsb, ho, KeepX.refl _ _⟩
      clear hS ho hg
      rintro ⟨i, lv⟩ Hx ⟨hi, hS, hsb, ho, kx⟩ hBx
      have lx := kx.1
      have hgx := hgk kx
      have hpx : Ints Hx pv p := Row.keepX hp kx hX0
      obtain ⟨si, hsi⟩ : ∃ si, walkK (grB gs) (nxB gs) K r p s i = si := ⟨_, rfl⟩
      rw [hsi] at hS hsb ho
      obtain ⟨ms, hms⟩ : ∃ ms, mmO si.2 = ms := ⟨_, rfl⟩
      by_cases hi2 : i < m
      rotate_left
      · obtain rfl : i = m := by omega
        rw [hsi]
        repeat' first
          | refine CO.cons rfl ?_
          | refine CO.nil ?_
          | refine CV.seq ?_
          | refine CV.region callees ?_
          | refine CV.cond ?_
          | refine CV.exit ?_
          | refine ⟨(⟨by omega, by omega⟩ : inI64 _), ?_⟩
          | refine ⟨_, fun tm ha => step1_min rfl (ev_tmp ha rfl) (ev_tmp ha rfl), ?_⟩
          | (refine ⟨_, (rfl : nilOk _ = some _), ?_⟩)
          | (refine ⟨_, fS foX1 (by decide), ?_⟩)
          | (refine ⟨_, cell_load ag3 hS rfl, ?_⟩)
          | (refine ⟨fun _ => ?_, fun _ => ?_⟩ <;> first | (exfalso; omega) | skip)
          | fail
        exact ⟨rfl, lv, hS, ho, kx⟩
      have hsucc : walkK (grB gs) (nxB gs) K r p s (i + 1) = walkP (grB gs) (nxB gs) K r (p ++ [(i : Int)]) si := by rw [walkK_succ, hsi]
      have hpb : (p ++ [(i : Int)]).length + r = gs.length := by rw [List.length_append, List.length_singleton]; omega
      have hsb2 := walkB_le (gs := gs) (K := K) hpb hsb
      repeat' first
        | refine CO.cons rfl ?_
        | refine CO.nil ?_
        | refine CV.seq ?_
        | refine CV.region callees ?_
        | refine CV.cond ?_
        | refine CV.block ?_
        | refine CV.skip ?_
        | refine ⟨(⟨by omega, by omega⟩ : inI64 _), ?_⟩
        | refine ⟨_, fun tm ha => step1_min rfl (ev_tmp ha rfl) (ev_tmp ha rfl), ?_⟩
        | (refine ⟨_, (rfl : nilOk _ = some _), ?_⟩)
        | (refine ⟨_, fS foX1 (by decide), ?_⟩)
        | (refine ⟨_, cell_load ag3 hS rfl, ?_⟩)
        | (refine ⟨_, _, build_none un22 one3, ?_⟩)
        | (refine ⟨fun _ => ?_, fun _ => ?_⟩ <;> first | (exfalso; omega) | skip)
        | fail
      refine copy_ask un22 one3 (by omega) hpx hBx (by rw [List.length_map]; omega) ?_
      intro o H3 ho3 k3
      have l3 := k3.1
      repeat' first
        | refine CO.cons rfl ?_
        | (refine ⟨_, _, build_one un22 one3 rfl, ?_⟩)
        | fail
      refine push_ask (y := (i : Int)) ho3 k3.1 hBx (by omega) ?_
      intro o4 H4 ho4 kb4 hf4
      have k4 : Keep Hx H4 := kb4.keep k3 (fun z hz => (ho3.lt hz).1)
      have l4 := k4.1
      have hS4 := (k4.2 b (by omega)).trans hS
      have hg4 := hgx.keep k4
      have ho4r : Ints H4 o4 (p ++ [(i : Int)]) := ho4.row
      have hp4 : Ints H4 pv p := Row.keep hpx k4
      repeat' first
        | refine CO.cons rfl ?_
        | refine CO.nil ?_
        | refine CV.seq ?_
        | refine CV.region callees ?_
        | refine ⟨_, ints_len (by assumption), ?_⟩
        | (refine ⟨_, (rfl : nilOk _ = some _), ?_⟩)
        | (refine ⟨_, fS foX0 (by decide), ?_⟩)
        | (refine ⟨_, ldX hS4, ?_⟩)
        | fail
      refine (repeated_spec (n := p.length) (by omega) hg4 ho4r hpl (by simp) (by omega) hgo.short (fun y hy => (hgo.r p.length hpl y hy).1)).mono ?_
      rw [againL_snoc]
      rintro v5 X5 ⟨rfl, k5⟩
      have l5 := k5.1
      have hS5 := (k5.2 b (by omega)).trans hS4
      have ho5 : Own 3 X5 lv (si.1.map VI) B0 := (ho.keep k4).keep k5
      have kx5 : KeepX b X X5 := ⟨by omega, fun c hc hcb => (k5.2 c (by omega)).trans ((k4.2 c (by omega)).trans (kx.2 c hc hcb))⟩
      have hag := again_le hgo (p := p) (c := (i : Int)) hpl
      have hih := ih (p ++ [(i : Int)]) si o4 lv X5 hpb (fun x hx => by
        rcases List.mem_append.1 hx with h | h
        · exact hpm x h
        · rw [List.mem_singleton] at h; omega) hsb (hg4.keep k5) (Row.keep ho4r k5) hS5 ho5 (by omega) (by omega)
      rw [show ((tak (p ++ [(i : Int)]) : Nat) : Int) = max (tak p : Int) ((i : Int) + 1) by rw [tak_snoc]; omega, repP_snoc, ← hsucc] at hih
      rw [← hsucc] at hsb2
      repeat' first
        | refine CO.cons rfl ?_
        | refine CO.nil ?_
        | refine CV.region callees ?_
        | refine ⟨(⟨by omega, by omega⟩ : inI64 _), ?_⟩
        | refine ⟨_, fun tm ha => step1_max rfl (ev_tmp ha rfl) (ev_tmp ha rfl), ?_⟩
        | fail
      refine hih.mono ?_
      rintro v6 X6 ⟨lv6, hS6, ho6, kx6⟩
      repeat' first
        | refine CO.cons rfl ?_
        | refine CO.nil ?_
        | refine CV.region callees ?_
        | refine ⟨(⟨by omega, by omega⟩ : inI64 _), ?_⟩
        | fail
      refine ⟨(i + 1, lv6), (by repeat' first | exact trivial | refine ⟨rfl, ?_⟩ | refine ⟨slot_int (by (try simp only [Int.toNat_natCast]); omega), ?_⟩), (by (try dsimp only); omega), ?_⟩
      exact ⟨by omega, hS6, hsb2, ho6, kx5.trans kx6⟩
end Go.Proofs.Ytijimplcjaeneaa
