
/- Water that stays as warm, or gets no colder. -/
import Derived.Test.YtglkphjjinmgmaaWyh
import Derived.Test.YtglkphjjinmgmaaWqh
set_option linter.unusedVariables false
set_option linter.unusedSimpArgs false
namespace Go.Proofs.Ytglkphjjinmgmaa
open Go.AI
theorem rnd_same {ro p e : Int} (hp : 1 ≤ p) : rnd (ro * p) p e = ro := by
  unfold rnd
  split
  · rw [Int.add_comm, Int.add_mul_ediv_right _ _ (by omega), Int.ediv_eq_zero_of_lt (by omega) (by omega)]; omega
  · exact Int.mul_ediv_cancel _ (by omega)
theorem rnd_up {w n p e : Int} (hp : 1 ≤ p) (h : w * p ≤ n) : w ≤ rnd n p e := by
  unfold rnd
  split
  · exact Int.le_ediv_of_mul_le (by omega) (by omega)
  · exact Int.le_ediv_of_mul_le (by omega) h
def AtW (ro : Int) (w : Wt) : Prop := w.w0 = ro ∧ w.w1 = ro
theorem pour_same {ro : Int} {w : Wt} {p : Po} (h : AtW ro w) (hp : p.wm = ro) (hl : 1 ≤ w.la + p.la) : AtW ro (pourN w p) := by
  obtain ⟨h0, h1⟩ := h
  unfold pourN
  split
  · have e : ro * w.la + ro * p.la = ro * (w.la + p.la) := (Int.mul_add ..).symm
    exact ⟨by simp only [h0, hp, e]; exact rnd_same hl, by simp only [h1, hp, e]; exact rnd_same hl⟩
  · exact ⟨h0, h1⟩
theorem hotS_same {k : Ke} {ro la : Int} (hk : k.ro = ro) : hotS k ro 0 la = ro * (la * 1000000) := by
  unfold hotS
  rw [hk, Int.sub_self, Int.zero_mul, Int.zero_mul, Int.zero_mul, Int.zero_mul, Int.mul_assoc]; omega
theorem hot_same {k : Ke} {ro : Int} {w : Wt} (hk : k.ro = ro) (hw : WOk w) (h : AtW ro w) : AtW ro (hotN k w (0, 0)) := by
  obtain ⟨h0, h1⟩ := h
  have a := hw.la
  have b := hw.w0'
  have c := hw.w1'
  unfold hotN AtW
  simp only [h0, h1, hotS_same hk]
  rw [rnd_same (by omega), rnd_same (by omega)]
  exact ⟨by omega, by omega⟩
theorem same_pourR {k : Ke} {ps : List Po} {ro : Int} (hp : POk k.wa ps) (hall : ∀ i, i < ps.length → ps[i]!.wm = ro) (m : Int) : ∀ (n j : Nat) (w : Wt), ps.length - j ≤ n → WS k ps j w → AtW ro w → AtW ro (pourR m (ps.drop j) w).1 := by
  intro n
  induction n with
  | zero =>
    intro j w hn h ha
    have := h.jl
    rw [List.drop_eq_nil_of_le (by omega)]
    exact ha
  | succ n ih =>
    intro j w hn h ha
    by_cases hj : j < ps.length
    · rw [drop_at hj]
      unfold pourR
      split
      · have h1 := (h.pour hp hj).ok.la
        refine ih (j + 1) _ (by omega) (h.pour hp hj) (pour_same ha (hall j hj) ?_)
        have h2 := hp.wa (j + 1) (by omega)
        have h3 := watN_succ (w := k.wa) hj
        have h4 := h.la
        omega
      · exact ha
    · rw [List.drop_eq_nil_of_le (by omega)]
      exact ha
theorem heat_none {m : Int} : heatL [] m = (0, 0) := rfl
theorem same_bef {k : Ke} {ps : List Po} {ro : Int} (hk : KOk k) (hro : k.ro = ro) (hw : k.wl = ro ∧ k.wh = ro) (hp : POk k.wa ps) (hall : ∀ i, i < ps.length → ps[i]!.wm = ro) : ∀ m, AtW ro (befM k [] ps m).1
  | 0 => hw
  | m + 1 => by
    have hE : ∀ i, i < ([] : List Em).length → EmOk ([] : List Em)[i]! := fun i hi => by simp at hi
    obtain ⟨j, h1, h2⟩ := ws_bef (E := []) hk hp (by decide) hE m
    obtain ⟨j', h3, h4⟩ := ws_pourR hp (m : Int) _ j _ (Nat.le_refl _) h2
    have h5 := same_pourR hp hall (m : Int) _ j _ (Nat.le_refl _) h2 (same_bef hk hro hw hp hall m)
    simp only [befM, h1, heat_none]
    exact hot_same hro h4.ok h5
theorem same_warm {k : Ke} {ps : List Po} {ro : Int} (hk : KOk k) (hro : k.ro = ro) (hw : k.wl = ro ∧ k.wh = ro) (hp : POk k.wa ps) (hall : ∀ i, i < ps.length → ps[i]!.wm = ro) (m : Nat) : warmM k [] ps m = (ro, ro) := by
  have hE : ∀ i, i < ([] : List Em).length → EmOk ([] : List Em)[i]! := fun i hi => by simp at hi
  obtain ⟨j, h1, h2⟩ := ws_bef (E := []) hk hp (by decide) hE m
  have h5 := same_pourR hp hall (m : Int) _ j _ (Nat.le_refl _) h2 (same_bef hk hro hw hp hall m)
  unfold warmM aftM
  rw [h1, h5.1, h5.2]
theorem up_hot {k : Ke} {w : Wt} {h : Int × Int} (hk : KOk k) (hlo : k.lo = 0) (hw : WOk w) (h0 : 0 ≤ h.1) (h1 : 0 ≤ h.2) : w.w0 ≤ (hotN k w h).w0 ∧ w.w1 ≤ (hotN k w h).w1 := by
  have a := hw.la
  have b := hw.w0'
  have c := hw.w1'
  have key : ∀ x y : Int, 0 ≤ y → x * (w.la * 1000000) ≤ hotS k x y w.la := fun x y hy => by
    unfold hotS
    rw [hlo, Int.mul_zero, Int.zero_mul, ← Int.mul_assoc]
    have := Int.mul_nonneg (Int.mul_nonneg hy hk.ga) (show (0 : Int) ≤ 1000000 by decide)
    omega
  have r0 := rnd_up (e := 0) (show 1 ≤ w.la * 1000000 by omega) (key w.w0 h.1 h0)
  have r1 := rnd_up (e := 1) (show 1 ≤ w.la * 1000000 by omega) (key w.w1 h.2 h1)
  unfold hotN
  exact ⟨by show _ ≤ min _ _; omega, by show _ ≤ min _ _; omega⟩
theorem bef_nil {k : Ke} {E : List Em} : ∀ m, (befM k E [] m).2 = []
  | 0 => rfl
  | m + 1 => by simp only [befM, bef_nil m, pourR]
theorem up_warm {k : Ke} {E : List Em} (hk : KOk k) (hlo : k.lo = 0) (hn : E.length ≤ 12) (hE : ∀ i, i < E.length → EmOk E[i]!) (m : Nat) : (warmM k E [] m).1 ≤ (warmM k E [] (m + 1)).1 ∧ (warmM k E [] m).2 ≤ (warmM k E [] (m + 1)).2 := by
  have hp : POk k.wa [] := (PoN.nil ⟨hk.wa, hk.wa'⟩).toPOk
  obtain ⟨j, _, h2⟩ := ws_bef (E := E) hk hp hn hE m
  have hb := heatL_bd (m := (m : Int)) hn hE
  have h3 : aftM k E [] m = ((befM k E [] m).1, []) := by simp only [aftM, bef_nil m, pourR]
  have h4 : aftM k E [] (m + 1) = ((befM k E [] (m + 1)).1, []) := by simp only [aftM, bef_nil (m + 1), pourR]
  have h5 : (befM k E [] (m + 1)).1 = hotN k (befM k E [] m).1 (heatL E m) := by simp only [befM, bef_nil m, pourR]
  unfold warmM
  rw [h3, h4, h5]
  exact up_hot hk hlo h2.ok hb.1.1 hb.2.1
theorem stK1 {H : Heap} {b q : Nat} {k : Ke} {p : Int × Int} {e : TypeId} (hg : H.get b = some (.cells (Kel k) e (q + 1))) : astore Try.prog 27 H (Hv p) (.pointer (some ⟨b, 0 + 1, none⟩)) = some (H.set b (.cells (Kel ⟨k.wa, p.1, p.2, k.ro, k.ga, k.lo, k.si, k.bo⟩) e (q + 1)), b) := by
  have h1 : (Value.agg (Hl p).toArray).cells = (Hl p).toArray := rfl
  show astore Try.prog 27 H (Value.agg (Hl p).toArray) _ = _
  simp only [astore, hg, h1, sz41, spliceQ_eq]
  rw [if_pos ⟨by simp, by simp, rfl, by rfl⟩]
  rfl
theorem bu28e : abuild Try.prog 25 [] = some (Fv nilS nilS) := by kernel_rfl
theorem nil_rowC {H : Heap} : RowS 7 H nilS (([] : List Co).map Col) := ⟨fun r hr => (by cases hr), .inl ⟨rfl, rfl⟩⟩
theorem nil_rowT {H : Heap} : RowS 2 H nilS (([] : List (Int × Int)).map Hl) := ⟨fun r hr => (by cases hr), .inl ⟨rfl, rfl⟩⟩
theorem fok0 : FOk [] [] := ⟨by decide, fun i hi => by simp at hi, by decide, fun i hi => by simp at hi⟩
theorem beg0 {e : Int} : IsBeg e [] [] [] := ⟨rfl, fun i hi => absurd hi (Nat.not_lt_zero _), fun i hi _ => absurd hi (Nat.not_lt_zero _), fun p hp => (by rcases hp.1 with h | h <;> cases h), fun i hi _ => absurd hi (Nat.not_lt_zero _)⟩
theorem pok_wm {w ro : Int} {ps qs : List Po} (h : POk w ps) (hl : qs.length = ps.length) (hr : 0 ≤ ro ∧ ro ≤ 1000) (hq : ∀ i, i < ps.length → qs[i]!.mi = ps[i]!.mi ∧ qs[i]!.la = ps[i]!.la ∧ qs[i]!.wm = ro) : POk w qs := by
  have hm : qs.map (·.la) = ps.map (·.la) := by
    apply List.ext_getElem (by simp [hl])
    intro i h1 h2
    have h3 : i < ps.length := by simpa using h2
    have := (hq i h3).2.1
    rw [getElem!_pos qs i (by omega), getElem!_pos ps i h3] at this
    simpa using this
  refine ⟨by have := h.n; omega, fun i hi => by rw [(hq i (by omega)).1]; exact h.mi i (by omega), fun i hi => by rw [(hq i (by omega)).2.1]; exact h.la i (by omega), fun i hi => by rw [(hq i (by omega)).2.2]; exact hr, fun i hi => by rw [(hq i (by omega)).1, (hq (i + 1) (by omega)).1]; exact h.up i (by omega), fun i hi => ?_⟩
  have := h.wa i (by omega)
  unfold watN at this ⊢
  rw [hm]; exact this
end Go.Proofs.Ytglkphjjinmgmaa
