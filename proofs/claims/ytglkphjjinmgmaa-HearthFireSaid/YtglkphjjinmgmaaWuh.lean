
/- A fire that truly burns so, and what is known of it. -/
import Derived.Test.YtglkphjjinmgmaaWth
set_option linter.unusedVariables false
set_option linter.unusedSimpArgs false
namespace Go.Proofs.Ytglkphjjinmgmaa
open Go.AI
theorem IsBeg.mono {e e' : Int} {cs cs' : List Co} {ts : List (Int × Int)} {B B' : List Int} (hf' : FOk cs' ts) (hl : cs'.length = cs.length) (hlt : ∀ i, i < cs.length → cs'[i]!.lt = cs[i]!.lt) (g1 : ∀ i, i < cs.length → ca e cs[i]! ≤ ca e' cs'[i]!) (g2 : ∀ i, i < cs.length → bu e' cs'[i]! ≤ bu e cs[i]!) (h : IsBeg e cs ts B) (h' : IsBeg e' cs' ts B') : ∀ (m : Nat) (i : Nat), i < cs.length → B'[i]!.toNat ≤ m → B[i]! ≤ B'[i]! := by
  intro m
  have q1 := h.len
  have q2 := h'.len
  induction m with
  | zero =>
    intro i hi hm
    have h1 := h'.lo i (by omega)
    cases hl2 : cs[i]!.lt with
    | true => rw [h.lit i (by omega) hl2]; omega
    | false =>
      rcases h'.via i (by omega) ((hlt i hi).trans hl2) with h2 | ⟨p, hp, hpi, h3, _⟩
      · omega
      · have h4 := hp.ok hf'
        have h5 := ca_pos (e := e') hf' h4.2.1.1 h4.2.1.2
        have h6 := h'.lo p.1.toNat (by omega)
        omega
  | succ m ih =>
    intro i hi hm
    have h1 := h'.lo i (by omega)
    have h0 := h.lo i (by omega)
    cases hl2 : cs[i]!.lt with
    | true => rw [h.lit i (by omega) hl2]; omega
    | false =>
      rcases h'.via i (by omega) ((hlt i hi).trans hl2) with h2 | ⟨p, hp, hpi, h3, _⟩
      · omega
      · have h4 := hp.ok hf'
        have h5 := ca_pos (e := e') hf' h4.2.1.1 h4.2.1.2
        have h6 := h'.lo p.1.toNat (by omega)
        have h7 := ih p.1.toNat (by omega) (by omega)
        have a1 : ca e (coAt cs p.2) ≤ ca e' (coAt cs' p.2) := g1 p.2.toNat (by omega)
        have a2 : bu e' (coAt cs' p.1) ≤ bu e (coAt cs p.1) := g2 p.1.toNat (by omega)
        have h8 := h.le p ⟨hp.1, by have := hp.2; omega⟩
        have h9 : p.2.toNat = i := by omega
        rw [h9] at h8
        omega
/-- The coals as they truly burn. -/
def mkC (cs : List Co) (U V : List Int) : List Co := (List.range cs.length).map fun i => ⟨U[i]!, U[i]!, V[i]!, V[i]!, cs[i]!.hl, cs[i]!.hh, cs[i]!.lt⟩
theorem mkC_len {cs : List Co} {U V : List Int} : (mkC cs U V).length = cs.length := by simp [mkC]
theorem mkC_at {cs : List Co} {U V : List Int} {i : Nat} (h : i < cs.length) : (mkC cs U V)[i]! = ⟨U[i]!, U[i]!, V[i]!, V[i]!, cs[i]!.hl, cs[i]!.hh, cs[i]!.lt⟩ := by
  rw [getElem!_pos _ i (by rw [mkC_len]; exact h)]
  simp [mkC]
theorem mkC_ca {cs : List Co} {U V : List Int} (hU : U.length = cs.length) (e : Int) : (mkC cs U V).map (ca e) = U := by
  apply List.ext_getElem (by rw [List.length_map, mkC_len, hU])
  intro i h1 h2
  have := mkC_at (U := U) (V := V) (show i < cs.length by omega)
  rw [getElem!_pos _ i (by rw [mkC_len]; omega)] at this
  rw [List.getElem_map, this, ca]
  rw [getElem!_pos U i h2]
  split <;> rfl
theorem mkC_bu {cs : List Co} {U V : List Int} (hV : V.length = cs.length) (e : Int) : (mkC cs U V).map (bu e) = V := by
  apply List.ext_getElem (by rw [List.length_map, mkC_len, hV])
  intro i h1 h2
  have := mkC_at (U := U) (V := V) (show i < cs.length by omega)
  rw [getElem!_pos _ i (by rw [mkC_len]; omega)] at this
  rw [List.getElem_map, this, bu]
  rw [getElem!_pos V i h2]
  split <;> rfl
theorem mkC_ok {cs : List Co} {ts : List (Int × Int)} {U V : List Int} (hf : FOk cs ts) (h : ∀ i, i < cs.length → InB cs U V i) : FOk (mkC cs U V) ts := by
  refine ⟨by rw [mkC_len]; exact hf.n, fun i hi => ?_, hf.m, fun i hi => by rw [mkC_len]; exact hf.t i hi⟩
  rw [mkC_len] at hi
  rw [mkC_at hi]
  obtain ⟨a1, a2, a3, a4, a5, a6, a7, a8, a9⟩ := hf.c i hi
  obtain ⟨⟨b1, b2⟩, b3, b4⟩ := h i hi
  exact ⟨by show 1 ≤ U[i]!; omega, Int.le_refl _, by show U[i]! ≤ 300; omega, by show 1 ≤ V[i]!; omega, Int.le_refl _, by show V[i]! ≤ 300; omega, a7, a8, a9⟩
/-- It begins within what is known. -/
theorem beg_in {cs : List Co} {ts : List (Int × Int)} {U V B0 B1 A : List Int} (hf : FOk cs ts) (h : ∀ i, i < cs.length → InB cs U V i) (h0 : IsBeg 0 cs ts B0) (h1 : IsBeg 1 cs ts B1) (hA : IsBeg 0 (mkC cs U V) ts A) : ∀ i, i < cs.length → B0[i]! ≤ A[i]! ∧ A[i]! ≤ B1[i]! := by
  intro i hi
  have hf' := mkC_ok hf h
  have ca' : ∀ (e : Int) (j : Nat), j < cs.length → ca e (mkC cs U V)[j]! = U[j]! := fun e j hj => by rw [mkC_at hj, ca]; split <;> rfl
  have bu' : ∀ (e : Int) (j : Nat), j < cs.length → bu e (mkC cs U V)[j]! = V[j]! := fun e j hj => by rw [mkC_at hj, bu]; split <;> rfl
  refine ⟨IsBeg.mono (cs := cs) hf' mkC_len (fun j hj => by rw [mkC_at hj]) (fun j hj => ?_) (fun j hj => ?_) h0 hA _ i hi (Nat.le_refl _), IsBeg.mono (cs := mkC cs U V) (e := 0) hf mkC_len.symm (fun j hj => ?_) (fun j hj => ?_) (fun j hj => ?_) hA h1 _ i (by rw [mkC_len]; exact hi) (Nat.le_refl _)⟩
  · rw [ca' 0 j hj]; exact (h j hj).1.1
  · rw [bu' 0 j hj]; exact (h j hj).2.2
  · rw [mkC_len] at hj; rw [mkC_at hj]
  · rw [mkC_len] at hj; rw [ca' 0 j hj]; exact (h j hj).1.2
  · rw [mkC_len] at hj; rw [bu' 0 j hj]; exact (h j hj).2.1
theorem heat_in {cs : List Co} {B0 B1 U V A E : List Int} {m : Int} (hc : ∀ i, i < cs.length → 0 ≤ cs[i]!.hl) (hUV : ∀ i, i < cs.length → InB cs U V i) (hA : ∀ i, i < cs.length → B0[i]! ≤ A[i]! ∧ A[i]! ≤ B1[i]!) (hE : ∀ i, i < cs.length → cs[i]!.hl ≤ E[i]! ∧ E[i]! ≤ cs[i]!.hh) : (heatL (emL cs B0 B1) m).1 ≤ trueH V A E m cs.length ∧ trueH V A E m cs.length ≤ (heatL (emL cs B0 B1) m).2 := by
  have hgl : ((emL cs B0 B1).map (giv m)).length = cs.length := by rw [List.length_map, emL_len]
  have hat : ∀ i, i < cs.length → ((emL cs B0 B1).map (giv m))[i]! = giv m (emAt cs B0 B1 i) := fun i hi => by
    rw [getElem!_pos _ i (by omega), List.getElem_map]
    have := emL_at (B0 := B0) (B1 := B1) hi
    rw [getElem!_pos _ i (by rw [emL_len]; exact hi)] at this
    rw [this]
  generalize hL : (emL cs B0 B1).map (giv m) = L at hgl hat
  have key : ∀ i : Nat, i ≤ cs.length → sumI ((L.map (·.1)).take i) ≤ trueH V A E m i ∧ trueH V A E m i ≤ sumI ((L.map (·.2)).take i) := by
    intro i
    induction i with
    | zero => intro _; simp [sumI, trueH]
    | succ i ih =>
      intro hi
      have h0 := ih (by omega)
      rw [sumI_take (by rw [List.length_map]; omega), sumI_take (by rw [List.length_map]; omega), map_at1 (by omega), map_at2 (by omega), hat i (by omega)]
      have h1 := hc i (by omega)
      obtain ⟨⟨u1, u2⟩, u3, u4⟩ := hUV i (by omega)
      have h2 := hA i (by omega)
      have h3 := hE i (by omega)
      have e1 : (giv m (emAt cs B0 B1 i)).1 = if B1[i]! ≤ m ∧ m < B0[i]! + cs[i]!.bl then cs[i]!.hl else 0 := rfl
      have e2 : (giv m (emAt cs B0 B1 i)).2 = if B0[i]! ≤ m ∧ m < B1[i]! + cs[i]!.bh then cs[i]!.hh else 0 := rfl
      rw [e1, e2]
      simp only [trueH]
      constructor
      · split <;> split <;> omega
      · split <;> split <;> omega
  have := key cs.length (Nat.le_refl _)
  rw [List.take_of_length_le (by rw [List.length_map]; omega), List.take_of_length_le (by rw [List.length_map]; omega)] at this
  unfold heatL sumA sumB
  rw [hL]
  exact this
set_option maxRecDepth 100000 in
theorem holds_spec {B : Nat} {H : Heap} {p : Int × Int} {x : Int} (hB : B ≤ H.n) (h1 : p.1 ≤ x) (h2 : x ≤ p.2) :
    CallB Try.prog B 48 [Hv p, VJ x] H (fun r H' => r = .bool true ∧ Keep H H') := by
  refine CV.enter callees false rfl Try.func48 rfl (by kernel_rfl) (Nat.le_of_ble_eq_true rfl) hB ?_
  repeat' first
    | refine CO.cons rfl ?_
    | refine CV.seq ?_
    | refine CV.region callees ?_
    | fail
  refine ⟨(by simp only [notTuple]), ?_⟩
  rw [allocHv]
  generalize hs0 : Heap.new H _ = H0
  have hg0 := new_get hs0
  have k0 := new_keep hs0
  have n0 := new_n hs0
  obtain ⟨b0, hbn0⟩ : ∃ b, Heap.n H = b := ⟨_, rfl⟩
  rw [hbn0] at hg0 n0 ⊢
  repeat' first
    | refine CO.cons rfl ?_
    | refine CO.nil ?_
    | refine CV.seq ?_
    | refine CV.region callees ?_
    | refine CV.ret ?_
    | refine CO.consG rfl ?_
    | (refine ⟨_, fS foS0 (by decide), ?_⟩)
    | (refine ⟨_, fS foS1 (by decide), ?_⟩)
    | (refine ⟨_, cell_load ag3 hg0 rfl, ?_⟩)
    | (refine ⟨fun _ => ?_, fun _ => ?_⟩ <;> first | (exfalso; omega) | skip)
    | fail
  exact ⟨rfl, rfl, k0⟩
theorem same_fv {H : Heap} {c t : Value} {e e' : TypeId} {s s' : Nat} {rs rs' : List (List Value)} {B B' : Nat} (h1 : OwnS e s H c rs B) (h2 : OwnS e' s' H t rs' B') : sameFix (Fv c t) (Fv c t) = true := by
  rcases h1.2 with ⟨rfl, _⟩ | ⟨_, rfl, _⟩ <;> rcases h2.2 with ⟨rfl, _⟩ | ⟨_, rfl, _⟩ <;> simp [sameFix, sameFixL, sameFix1]
theorem st31 {H : Heap} {b q : Nat} {c p c' p' : Value} {e : TypeId} (h1 : oneC c' = true) (h2 : oneC p' = true) (hg : H.get b = some (.cells (Fl c p) e (q + 1))) : astore Try.prog 71 H (Fv c' p') (.pointer (some ⟨b, 0, none⟩)) = some (H.set b (.cells (Fl c' p') e (q + 1)), b) := store_all (vs := Fl c' p') hg rfl sz31 (by
  have : (Fl c' p').all oneC = (oneC c' && (oneC p' && true)) := rfl
  rw [this, h1, h2]; rfl)
end Go.Proofs.Ytglkphjjinmgmaa
