
/- Pours made of numbers. -/
import Derived.Test.YtglkphjjinmgmaaWxh
set_option linter.unusedVariables false
set_option linter.unusedSimpArgs false
namespace Go.Proofs.Ytglkphjjinmgmaa
open Go.AI
theorem quoI {P : Program} {tm : Tm} {H : Heap} {o : Oper} {t u : TypeId} {x y : Operand} {a b : Int} (ho : o.op = .binOp .quo t x y u) (hx : ev P tm x = some (.int .i64 a)) (hy : ev P tm y = some (.int .i64 b)) (hb : b ≠ 0) (h0 : -9223372036854775808 ≤ a.tdiv b) (h1 : a.tdiv b < 9223372036854775808) : step1 P tm H o = some (.int .i64 (a.tdiv b), H, H.n) := by
  have := step1_quo ho hx hy hb (H := H)
  rw [wrapI h0 h1] at this
  exact this
theorem zero62b : zeroBB Try.prog 82 = some (Pol ⟨0, 0, 0⟩, 24) := by kernel_rfl
abbrev OwnO (H : Heap) (v : Value) (l : List Po) (B : Nat) : Prop := OwnS 82 3 H v (l.map Pol) B
theorem po_one {H : Heap} {x : Po} : abuildSlice Try.prog H 30 1 [(0, Pov x)] = some (.slice (some ⟨H.n, 0, none⟩) 1 0, H.new (.cells (Pol x) 82 2), H.n) :=
  build_oneS (row := Pol x) un53 zero62b (by decide) rfl
theorem po_push {K : Value → Heap → Prop} {B B0 : Nat} {H : Heap} {x : Value} {l : List Po} {d : Po} (hx : OwnO H x l B0) (hB0 : B0 ≤ H.n) (hB : B ≤ B0) (hn : l.length < 1000000)
    (hk : ∀ r H', OwnO H' r (l ++ [d]) B0 → KeepBut x H H' → (∀ c, blkOf r = some c → H.n ≤ c) → K r H') :
    ∃ v H' b, aappend Try.prog (H.new (.cells (Pol d) 82 2)) #[30, 30] x (.slice (some ⟨H.n, 0, none⟩) 1 0) = some (v, H', b) ∧ B ≤ b ∧ K v H' :=
  append_askS (z := Pol ⟨0, 0, 0⟩) un53 zero62b (by decide) rfl hx hB0 hB (by rw [List.length_map]; exact hn) (fun r H' ho => hk r H' (by rw [OwnO, List.map_append]; exact ho))
theorem bu62 {x y z : Int} : abuild Try.prog 82 [(0, VJ x), (1, VJ y), (2, VJ z)] = some (Pov ⟨x, y, z⟩) := by kernel_rfl
theorem watN_snoc {w : Int} {ps : List Po} {d : Po} : (∀ i, i ≤ ps.length → watN w (ps ++ [d]) i = watN w ps i) ∧ watN w (ps ++ [d]) (ps.length + 1) = watN w ps ps.length + d.la := by
  constructor
  · intro i hi
    unfold watN
    rw [List.map_append, List.take_append_of_le_length (by rw [List.length_map]; exact hi)]
  · unfold watN
    rw [List.map_append, List.take_of_length_le (by simp), List.take_of_length_le (by simp), List.map_cons, List.map_nil, sumI_app]
    omega
theorem at_old {l : List Po} {d : Po} {i : Nat} (h : i < l.length) : (l ++ [d])[i]! = l[i]! := by
  rw [getElem!_pos (l ++ [d]) i (by rw [List.length_append]; omega), List.getElem_append_left h, getElem!_pos l i h]
theorem at_new {l : List Po} {d : Po} : (l ++ [d])[l.length]! = d := by
  rw [getElem!_pos (l ++ [d]) l.length (by rw [List.length_append, List.length_singleton]; omega), List.getElem_append_right (Nat.le_refl _)]
  simp
/-- Pours that may be, and where the next one may follow. -/
structure PoN (w : Int) (ps : List Po) (water minute : Int) : Prop extends POk w ps where
  wt : water = watN w ps ps.length
  m0 : 0 ≤ minute
  last : ∀ i, i < ps.length → ps[i]!.mi ≤ minute
theorem PoN.nil {w : Int} (h : 1 ≤ w ∧ w ≤ 50) : PoN w [] w 0 := ⟨⟨by decide, fun i hi => by simp at hi, fun i hi => by simp at hi, fun i hi => by simp at hi, fun i hi => by simp at hi, fun i hi => by
  obtain rfl : i = 0 := by simpa using hi
  rw [watN_zero]; exact h⟩, by rw [List.length_nil, watN_zero], by decide, fun i hi => by simp at hi⟩
theorem PoN.later {w : Int} {ps : List Po} {water minute m' : Int} (h : PoN w ps water minute) (hm : minute ≤ m') : PoN w ps water m' := ⟨h.toPOk, h.wt, by have := h.m0; omega, fun i hi => by have := h.last i hi; omega⟩
theorem PoN.snoc {w : Int} {ps : List Po} {water minute la wm : Int} (h : PoN w ps water minute) (hn : ps.length < 20) (hm : minute ≤ 300) (hl : 1 - water ≤ la ∧ la ≤ 50 - water ∧ la ≤ 50 ∧ la ≠ 0) (hw : 0 ≤ wm ∧ wm ≤ 1000) : PoN w (ps ++ [⟨minute, la, wm⟩]) (water + la) minute := by
  have hlen : (ps ++ [(⟨minute, la, wm⟩ : Po)]).length = ps.length + 1 := by rw [List.length_append, List.length_singleton]
  have hwl := h.wa ps.length (Nat.le_refl _)
  have hwt := h.wt
  have hm0 := h.m0
  have two : ∀ {P : Nat → Po → Prop}, (∀ i, i < ps.length → P i ps[i]!) → P ps.length ⟨minute, la, wm⟩ → ∀ i, i < ps.length + 1 → P i (ps ++ [(⟨minute, la, wm⟩ : Po)])[i]! := by
    intro P h1 h2 i hi
    by_cases hi2 : i < ps.length
    · rw [at_old hi2]; exact h1 i hi2
    · obtain rfl : i = ps.length := by omega
      rw [at_new]; exact h2
  refine ⟨⟨by omega, fun i hi => ?_, fun i hi => ?_, fun i hi => ?_, fun i hi => ?_, fun i hi => ?_⟩, ?_, hm0, fun i hi => ?_⟩
  · rw [hlen] at hi
    exact two (P := fun _ p => 0 ≤ p.mi ∧ p.mi ≤ 300) h.mi ⟨hm0, hm⟩ i hi
  · rw [hlen] at hi
    exact two (P := fun _ p => -50 ≤ p.la ∧ p.la ≤ 50 ∧ p.la ≠ 0) h.la ⟨by show -50 ≤ la; omega, hl.2.2.1, hl.2.2.2⟩ i hi
  · rw [hlen] at hi
    exact two (P := fun _ p => 0 ≤ p.wm ∧ p.wm ≤ 1000) h.wm hw i hi
  · rw [hlen] at hi
    rw [at_old (by omega)]
    by_cases hi2 : i + 1 < ps.length
    · rw [at_old hi2]; exact h.up i hi2
    · rw [show i + 1 = ps.length by omega, at_new]; exact h.last i (by omega)
  · rw [hlen] at hi
    by_cases hi2 : i ≤ ps.length
    · rw [watN_snoc.1 i hi2]; exact h.wa i hi2
    · rw [show i = ps.length + 1 by omega, watN_snoc.2]
      show 1 ≤ _ + la ∧ _ + la ≤ 50
      omega
  · rw [hlen, watN_snoc.2, hwt]
  · rw [hlen] at hi
    exact two (P := fun _ p => p.mi ≤ minute) h.last (Int.le_refl _) i hi
set_option maxHeartbeats 8000000 in
set_option maxRecDepth 100000 in
theorem poursOf_spec {B b : Nat} {H : Heap} {k : Ke} {mo mn : Int} (hB : B ≤ b) (hn : B ≤ H.n) (hb : Box b H) (hk : KOk k) (h0 : 0 ≤ mo) (h1 : mo ≤ 20) (h2 : 0 ≤ mn) (h3 : mn ≤ 1000) :
    CallB Try.prog B 20 [bp b, Kev k, VJ mo, VJ mn] H (fun r H' => (∃ ps, OwnO H' r ps H.n ∧ POk k.wa ps ∧ (ps.length : Int) ≤ mo) ∧ Box b H' ∧ KeepX b H H') := by
  have hbn := hb.1
  have q0 : 0 ≤ mn.tdiv 2 := Int.tdiv_nonneg h2 (by decide)
  have q1 : mn.tdiv 2 ≤ mn := Int.tdiv_le_self _ h2
  refine CV.enter callees false rfl Try.func20 rfl (by kernel_rfl) (Nat.le_of_ble_eq_true rfl) hn ?_
  repeat' first
    | refine CO.cons rfl ?_
    | refine CV.seq ?_
    | refine CV.region callees ?_
    | fail
  refine ⟨(by simp only [notTuple]), ?_⟩
  rw [boxKe]
  generalize hs5 : Heap.new H _ = H5
  have hg5 := new_get hs5
  have k5 := new_keep hs5
  have n5 := new_n hs5
  obtain ⟨b5, hbn5⟩ : ∃ b, Heap.n H = b := ⟨_, rfl⟩
  rw [hbn5] at hg5 n5 ⊢
  have hb5 := hb.keep k5
  repeat' first
    | refine CO.cons rfl ?_
    | refine CO.nil ?_
    | refine CV.seq ?_
    | refine CV.region callees ?_
    | refine ⟨(⟨by omega, by omega⟩ : inI64 _), ?_⟩
    | (refine ⟨_, fS foK0 (by decide), ?_⟩)
    | (refine ⟨_, cell_load ag3 hg5 rfl, ?_⟩)
    | fail
  refine (up_spec hB (by omega) hb5 (by omega)).mono ?_
  rintro r H6 ⟨⟨t, rfl, t1, t2⟩, hb6, k6⟩
  have l6 := k6.1
  have x6 := (k5.butX b).trans k6
  repeat' first
    | refine CO.cons rfl ?_
    | refine CO.nil ?_
    | refine CV.block ?_
    | fail
  refine CV.loopc ?_
  refine WCv.rounds callees false (α := Value × List Po × Int × Int × Int) (fun (q, ps, water, minute, c) => [(0, bp b), (3, VJ mn), (9, q), (10, VJ water), (11, VJ minute), (12, VJ c)]) (fun (q, ps, water, minute, c) Hz => (ps.length : Int) + c ≤ t ∧ 0 ≤ c ∧ OwnO Hz q ps H6.n ∧ PoN k.wa ps water minute ∧ minute ≤ 1000 * (t - c) ∧ Box b Hz ∧ KeepX b H Hz ∧ H6.n ≤ Hz.n) (fun (q, ps, water, minute, c) => c.toNat) (nilS, [], k.wa, 0, t) (by repeat' first | exact trivial | refine ⟨rfl, ?_⟩ | refine ⟨slot_int (by (try simp only [Int.toNat_natCast]); omega), ?_⟩) ?_ ?_
  · exact ⟨by simp, by omega, OwnS.nil, PoN.nil ⟨hk.wa, hk.wa'⟩, by omega, hb6, x6, Nat.le_refl _⟩
  rintro ⟨q, ps, water, minute, c⟩ Hx ⟨hpl, hc0, hq, hps, hmi, hbx, xx, lx⟩ hBx
  have hw := hps.wa ps.length (Nat.le_refl _)
  have hwt := hps.wt
  have hm0 := hps.m0
  by_cases hp : 0 < c
  · repeat' first
      | refine CO.cons rfl ?_
      | refine CO.nil ?_
      | refine CV.seq ?_
      | refine CV.region callees ?_
      | refine CV.cond ?_
      | refine CV.block ?_
      | refine CV.skip ?_
      | refine ⟨(⟨by omega, by omega⟩ : inI64 _), ?_⟩
      | (refine ⟨_, fun tm ha => quoI rfl (ev_tmp ha rfl) rfl (by decide) (by omega) (by omega), ?_⟩)
      | (refine ⟨fun _ => ?_, fun _ => ?_⟩ <;> first | (exfalso; omega) | skip)
      | fail
    refine (up_spec hB (by omega) hbx (by omega)).mono ?_
    rintro r H7 ⟨⟨d, rfl, d1, d2⟩, hb7, k7⟩
    have l7 := k7.1
    have hq7 : OwnO H7 q ps H6.n := OwnS.boxed hq k7 hbx
    repeat' first
      | refine CO.cons rfl ?_
      | refine CO.nil ?_
      | refine CV.seq ?_
      | refine CV.region callees ?_
      | refine ⟨(⟨by omega, by omega⟩ : inI64 _), ?_⟩
      | (refine ⟨_, fun tm ha => step1_min rfl rfl (ev_tmp ha rfl), ?_⟩)
      | fail
    refine (any_spec hB (by omega) hb7 (by omega) (by omega) (by omega)).mono ?_
    rintro r H8 ⟨⟨la, rfl, la1, la2⟩, hb8, k8⟩
    have l8 := k8.1
    have hq8 : OwnO H8 q ps H6.n := OwnS.boxed hq7 k8 hb7
    have x8 := (xx.trans k7).trans k8
    have hps2 := hps.later (m' := minute + d) (by omega)
    by_cases hla : la = 0 ∨ 300 < minute + d
    · repeat' first
        | refine CO.cons rfl ?_
        | refine CO.nil ?_
        | refine CV.seq ?_
        | refine CV.region callees ?_
        | refine CV.cond ?_
        | refine CV.exit ?_
        | refine CO.consG rfl ?_
        | refine ⟨(⟨by omega, by omega⟩ : inI64 _), ?_⟩
        | (refine ⟨fun _ => ?_, fun _ => ?_⟩ <;> first | (exfalso; omega) | skip)
        | fail
      all_goals
        refine ⟨(q, ps, water, minute + d, c - 1), (by repeat' first | exact trivial | refine ⟨rfl, ?_⟩ | refine ⟨slot_int (by (try simp only [Int.toNat_natCast]); omega), ?_⟩), (by (try dsimp only); omega), ?_⟩
        exact ⟨by omega, by omega, hq8, hps2, by omega, hb8, x8, by omega⟩
    · repeat' first
        | refine CO.cons rfl ?_
        | refine CO.nil ?_
        | refine CV.seq ?_
        | refine CV.region callees ?_
        | refine CV.cond ?_
        | refine CV.skip ?_
        | refine CO.consG rfl ?_
        | refine ⟨(⟨by omega, by omega⟩ : inI64 _), ?_⟩
        | (refine ⟨fun _ => ?_, fun _ => ?_⟩ <;> first | (exfalso; omega) | skip)
        | fail
      refine (up_spec hB (by omega) hb8 (by omega)).mono ?_
      rintro r H9 ⟨⟨wm, rfl, wm1, wm2⟩, hb9, k9⟩
      have l9 := k9.1
      have hq9 : OwnO H9 q ps H6.n := OwnS.boxed hq8 k9 hb8
      repeat' first
        | refine CO.cons rfl ?_
        | (refine ⟨_, bu62, ?_⟩)
        | (refine ⟨_, _, po_one, ?_⟩)
        | fail
      refine po_push hq9 (by omega) (by omega) (by omega) ?_
      intro qa Ha hqa kba hfa
      have la' := kba.le
      have bq : ∀ c, blkOf q = some c → H6.n ≤ c := fun c hc => (hq9.lt hc).1
      have hba := hb9.keepBut kba (fun h => by have := bq _ h; have := hb6.1; omega)
      have xa := kba.keepX (x8.trans k9) fun c hc => by have := bq _ hc; omega
      repeat' first
        | refine CO.cons rfl ?_
        | refine CO.nil ?_
        | refine CV.region callees ?_
        | refine ⟨(⟨by omega, by omega⟩ : inI64 _), ?_⟩
        | fail
      refine ⟨(qa, ps ++ [⟨minute + d, la, wm⟩], water + la, minute + d, c - 1), (by repeat' first | exact trivial | refine ⟨rfl, ?_⟩ | refine ⟨slot_int (by (try simp only [Int.toNat_natCast]); omega), ?_⟩), (by (try dsimp only); omega), ?_⟩
      exact ⟨by rw [List.length_append, List.length_singleton]; omega, by omega, hqa, hps2.snoc (by omega) (by omega) ⟨by omega, by omega, by omega, by omega⟩ ⟨by omega, by omega⟩, by omega, hba, xa, by omega⟩
  repeat' first
    | refine CO.cons rfl ?_
    | refine CO.nil ?_
    | refine CV.seq ?_
    | refine CV.region callees ?_
    | refine CV.cond ?_
    | refine CV.exit ?_
    | refine CV.ret ?_
    | (refine ⟨fun _ => ?_, fun _ => ?_⟩ <;> first | (exfalso; omega) | skip)
    | fail
  exact ⟨by simp only [List.all_cons, List.all_nil, OwnS.notTuple hq]; rfl, ⟨ps, OwnS.low hq (by omega), hps.toPOk, by omega⟩, hbx, xx⟩
end Go.Proofs.Ytglkphjjinmgmaa

