
/- Spans and fires made of numbers. -/
import Derived.Test.YtglkphjjinmgmaaWeh
set_option linter.unusedVariables false
set_option linter.unusedSimpArgs false
namespace Go.Proofs.Ytglkphjjinmgmaa
open Go.AI
theorem KeepX.put {b c : Nat} {H H1 H2 : Heap} (k : KeepX b H H1) (hc : H.n ≤ c) (o : ∀ x, x ≠ c → H2.get x = H1.get x) (n : H2.n = H1.n) : KeepX b H H2 := ⟨by have := k.1; omega, fun x hx hxb => (o x (by omega)).trans (k.2 x hx hxb)⟩
theorem Box.put {b c : Nat} {H1 H2 : Heap} (h : Box b H1) (hc : b ≠ c) (o : ∀ x, x ≠ c → H2.get x = H1.get x) (n : H2.n = H1.n) : Box b H2 := ⟨by have := h.1; omega, by obtain ⟨w, hw⟩ := h.2; exact ⟨w, (o b hc).trans hw⟩⟩
theorem OwnS.boxed {e : TypeId} {s b : Nat} {H H' : Heap} {v : Value} {rs : List (List Value)} {B : Nat} (h : OwnS e s H v rs B) (k : KeepX b H H') (hb : Box b H) : OwnS e s H' v rs B := by
  obtain ⟨_, w, hw⟩ := hb
  exact OwnS.keepX h k hw
set_option maxHeartbeats 4000000 in
set_option maxRecDepth 100000 in
theorem bspan_spec {B b : Nat} {H : Heap} {l h : Int} (hB : B ≤ b) (hn : B ≤ H.n) (hb : Box b H) (h0 : 0 ≤ l) (h1 : l ≤ h) (h2 : h < 100000) :
    CallB Try.prog B 57 [bp b, VJ l, VJ h] H (fun r H' => (∃ p : Int × Int, r = Hv p ∧ l ≤ p.1 ∧ p.1 ≤ p.2 ∧ p.2 ≤ h) ∧ Box b H' ∧ KeepX b H H') := by
  have hbn := hb.1
  refine CV.enter callees false rfl Try.func57 rfl (by kernel_rfl) (Nat.le_of_ble_eq_true rfl) hn ?_
  repeat' first
    | refine CO.cons rfl ?_
    | refine CO.nil ?_
    | refine CV.seq ?_
    | refine CV.region callees ?_
    | (refine ⟨_, _, al41, ?_⟩)
    | fail
  generalize hs0 : Heap.new H _ = H0
  have hg0 := new_get hs0
  have k0 := new_keep hs0
  have n0 := new_n hs0
  obtain ⟨b0, hbn0⟩ : ∃ b, Heap.n H = b := ⟨_, rfl⟩
  rw [hbn0] at hg0 n0 ⊢
  have hb0 := hb.keep k0
  repeat' first
    | fail
  refine (any_spec hB (by omega) hb0 (by omega) h1 (by omega)).mono ?_
  rintro r H1 ⟨⟨n, rfl, n1, n2⟩, hb1, k1⟩
  have l1 := k1.1
  repeat' first
    | refine CO.cons rfl ?_
    | refine CO.nil ?_
    | refine CV.seq ?_
    | refine CV.region callees ?_
    | fail
  refine (up_spec hB (by omega) hb1 (by omega)).mono ?_
  rintro r H2 ⟨⟨w, rfl, w1, w2⟩, hb2, k2⟩
  have l2 := k2.1
  have k12 := k1.trans k2
  have hg2 := (k12.2 b0 (by omega) (by omega)).trans hg0
  have x2 : KeepX b H H2 := (k0.butX b).trans k12
  repeat' first
    | refine CO.cons rfl ?_
    | refine CO.nil ?_
    | refine CV.seq ?_
    | refine CV.region callees ?_
    | refine CV.cond ?_
    | refine CV.block ?_
    | refine CV.skip ?_
    | refine ⟨(⟨by omega, by omega⟩ : inI64 _), ?_⟩
    | refine ⟨_, fun tm ha => step1_min rfl (ev_tmp ha rfl) (ev_tmp ha rfl), ?_⟩
    | (refine ⟨fun _ => ?_, fun _ => ?_⟩ <;> first | (exfalso; omega) | skip)
    | fail
  · repeat' first
      | refine CO.cons rfl ?_
      | (refine ⟨_, bu41, ?_⟩)
      | fail
    refine ⟨_, _, st41 hg2, by omega, ?_⟩
    generalize hs9 : Heap.set H2 b0 _ = H9
    have hg9 : H9.get b0 = some (.cells (Hl ((n, n))) 27 1) := set_get hs9
    have n9 := set_n hs9
    have o9 := set_old hs9
    repeat' first
      | refine CO.nil ?_
      | refine CV.ret ?_
      | fail
    exact ⟨_, ld41 hg9, rfl, ⟨⟨(n, n), rfl, by omega, by (try dsimp only); omega, by (try dsimp only); omega⟩, hb2.put (by omega) o9 n9, KeepX.put x2 (by omega) o9 n9⟩⟩
  · repeat' first
      | fail
    refine (any_spec hB (by omega) hb2 (by omega) (by omega) (by omega)).mono ?_
    rintro r H3 ⟨⟨m, rfl, m1, m2⟩, hb3, k3⟩
    have l3 := k3.1
    have hg3 := (k3.2 b0 (by omega) (by omega)).trans hg2
    have x3 := x2.trans k3
    repeat' first
      | refine CO.cons rfl ?_
      | (refine ⟨_, bu41, ?_⟩)
      | fail
    refine ⟨_, _, st41 hg3, by omega, ?_⟩
    generalize hs9 : Heap.set H3 b0 _ = H9
    have hg9 : H9.get b0 = some (.cells (Hl ((n, m))) 27 1) := set_get hs9
    have n9 := set_n hs9
    have o9 := set_old hs9
    repeat' first
      | refine CO.nil ?_
      | refine CV.ret ?_
      | fail
    exact ⟨_, ld41 hg9, rfl, ⟨⟨(n, m), rfl, by omega, by (try dsimp only); omega, by (try dsimp only); omega⟩, hb3.put (by omega) o9 n9, KeepX.put x3 (by omega) o9 n9⟩⟩
  · repeat' first
      | fail
    refine (any_spec hB (by omega) hb2 (by omega) (by omega) (by omega)).mono ?_
    rintro r H3 ⟨⟨m, rfl, m1, m2⟩, hb3, k3⟩
    have l3 := k3.1
    have hg3 := (k3.2 b0 (by omega) (by omega)).trans hg2
    have x3 := x2.trans k3
    repeat' first
      | refine CO.cons rfl ?_
      | (refine ⟨_, bu41, ?_⟩)
      | fail
    refine ⟨_, _, st41 hg3, by omega, ?_⟩
    generalize hs9 : Heap.set H3 b0 _ = H9
    have hg9 : H9.get b0 = some (.cells (Hl ((n, m))) 27 1) := set_get hs9
    have n9 := set_n hs9
    have o9 := set_old hs9
    repeat' first
      | refine CO.nil ?_
      | refine CV.ret ?_
      | fail
    exact ⟨_, ld41 hg9, rfl, ⟨⟨(n, m), rfl, by omega, by (try dsimp only); omega, by (try dsimp only); omega⟩, hb3.put (by omega) o9 n9, KeepX.put x3 (by omega) o9 n9⟩⟩
set_option maxRecDepth 100000 in
theorem fit_spec {B : Nat} {H : Heap} {x n : Int} (hB : B ≤ H.n) (hn : 2 ≤ n) (h0 : 0 ≤ x) (h1 : x < 2 * n) (h9 : n < 100000) :
    CallB Try.prog B 67 [VJ x, VJ n] H (fun r H' => r = VJ (if x < n then x else x - n) ∧ H' = H) := by
  have hm : x.tmod n = if x < n then x else x - n := by
    rw [Int.tmod_eq_emod_of_nonneg h0]
    split
    · exact Int.emod_eq_of_lt h0 (by assumption)
    · rename_i hx
      rw [show x = (x - n) + n by omega, Int.add_emod_right, Int.emod_eq_of_lt (by omega) (by omega)]
      omega
  have hm0 : 0 ≤ x.tmod n := by rw [hm]; split <;> omega
  have hm1 : x.tmod n < n := by rw [hm]; split <;> omega
  rw [← hm]
  refine CV.enter callees false rfl Try.func67 rfl (by kernel_rfl) (Nat.le_of_ble_eq_true rfl) hB ?_
  repeat' first
    | refine CO.cons rfl ?_
    | refine CO.nil ?_
    | refine CV.seq ?_
    | refine CV.region callees ?_
    | refine CV.cond ?_
    | refine CV.skip ?_
    | refine CV.ret ?_
    | (refine ⟨_, fun tm ha => step1_rem rfl (ev_tmp ha rfl) (ev_tmp ha rfl) (by omega), ?_⟩)
    | (refine ⟨fun _ => ?_, fun _ => ?_⟩ <;> first | (exfalso; omega) | skip)
    | fail
  exact ⟨rfl, rfl, rfl⟩
end Go.Proofs.Ytglkphjjinmgmaa

