
/- Guests with other numbers. -/
import Derived.Test.Ytlamceokhbigaaav0g
set_option linter.unusedVariables false
set_option linter.unusedSimpArgs false
namespace Go.Proofs.Ytlamceokhbigaaa
open Go.AI
def nmR (s : List Int) (r : Ru) : Ru := if r.kd ≤ 3 then { r with a := s[r.a.toNat]!, b := s[r.b.toNat]! } else if r.kd ≤ 5 then { r with a := s[r.a.toNat]! } else r
def reN (s o : List Int) : List Int := o.map fun x => s[x.toNat]!
/-- A party whose guests have other numbers. -/
structure Nmd (gs gs' : List Gu) (s : List Int) : Prop where
  f : Full gs.length s
  l : gs'.length = gs.length
  g : ∀ i, i < gs.length → gs'[s[i]!.toNat]! = gs[i]!
theorem Full.at {n : Nat} {s : List Int} (h : Full n s) {x : Int} (h0 : 0 ≤ x) (h1 : x < n) : s[x.toNat]! ∈ s ∧ 0 ≤ s[x.toNat]! ∧ s[x.toNat]! < n := by
  have hl := h.l
  have hm : s[x.toNat]! ∈ s := by rw [getElem!_pos s x.toNat (by omega)]; exact List.getElem_mem _
  exact ⟨hm, h.r _ hm⟩
theorem Full.inj {n : Nat} {s : List Int} (h : Full n s) {x y : Int} (h0 : 0 ≤ x) (h1 : x < n) (h2 : 0 ≤ y) (h3 : y < n) (he : s[x.toNat]! = s[y.toNat]!) : x = y := by
  have hl := h.l
  rw [getElem!_pos s x.toNat (by omega), getElem!_pos s y.toNat (by omega)] at he
  have a := List.Nodup.idxOf_getElem h.nd x.toNat (by omega)
  have b := List.Nodup.idxOf_getElem h.nd y.toNat (by omega)
  rw [he, b] at a
  omega
theorem reN_full {n : Nat} {s o : List Int} (h : Full n s) (ho : Full n o) : Full n (reN s o) := by
  refine ⟨?_, fun x hx => ?_, by unfold reN; rw [List.length_map, ho.l]⟩
  · unfold reN List.Nodup
    rw [List.pairwise_map]
    refine List.Pairwise.imp_of_mem ?_ ho.nd
    intro a b ha hb hab e
    have h1 := ho.r a ha
    have h2 := ho.r b hb
    exact hab (h.inj h1.1 h1.2 h2.1 h2.2 e)
  · unfold reN at hx
    obtain ⟨y, hy, rfl⟩ := List.mem_map.1 hx
    have h1 := ho.r y hy
    exact (h.at h1.1 h1.2).2
theorem seatL_nm {n : Nat} {s o : List Int} (h : Full n s) (ho : Full n o) (h7 : n ≤ 7) {x : Int} (h0 : 0 ≤ x) (h1 : x < n) : (seatL (reN s o))[s[x.toNat]!.toNat]! = (seatL o)[x.toNat]! := by
  have hx := h.at h0 h1
  have hxt : ((x.toNat : Nat) : Int) = x := by omega
  have hst : ((s[x.toNat]!.toNat : Nat) : Int) = s[x.toNat]! := by omega
  have hm : x ∈ o := by have := ho.all (show x.toNat < n by omega); rwa [hxt] at this
  have hm2 : s[x.toNat]! ∈ reN s o := List.mem_map.2 ⟨x, hm, rfl⟩
  rw [seatL_at (by omega), seatL_at (by omega), hxt, hst, if_pos hm, if_pos hm2]
  have hi := List.idxOf_lt_length_iff.2 hm
  have hg : o[o.idxOf x] = x := List.getElem_idxOf hi
  generalize o.idxOf x = i at hi hg
  have hi2 : i < (reN s o).length := by unfold reN; rw [List.length_map]; exact hi
  have e : (reN s o)[i] = s[x.toNat]! := by simp only [reN, List.getElem_map, hg]
  have := List.Nodup.idxOf_getElem (reN_full h ho).nd i hi2
  rw [e] at this
  rw [this]
theorem rankL_nm {gs gs' : List Gu} {s o : List Int} (h : Nmd gs gs' s) (ho : Full gs.length o) : rankL gs' (reN s o) = rankL gs o := by
  unfold rankL
  apply List.map_congr_left
  intro j hj
  have hlen : (reN s o).length = o.length := by unfold reN; rw [List.length_map]
  rw [hlen]
  by_cases c : j < o.length
  · rw [if_pos c, if_pos c]
    have hm : o[j]! ∈ o := by rw [getElem!_pos o j c]; exact List.getElem_mem _
    have hb := ho.r _ hm
    have e : (reN s o)[j]! = s[o[j]!.toNat]! := by unfold reN; rw [map_at c]
    rw [e, h.g _ (by omega)]
  · rw [if_neg c, if_neg c]
theorem keep_nm {gs gs' : List Gu} {s o : List Int} {r : Ru} (h : Nmd gs gs' s) (ho : Full gs.length o) (h7 : gs.length ≤ 7) (hr : RuOk gs.length r) : keepN gs.length (seatL (reN s o)) (rankL gs' (reN s o)) (nmR s r) = keepN gs.length (seatL o) (rankL gs o) r := by
  have k1 := hr.k1
  have k6 := hr.k6
  rw [rankL_nm h ho]
  by_cases c3 : r.kd ≤ 3
  · have ha := hr.a (by omega)
    have hb := hr.b (by omega)
    have sa := seatL_nm h.f ho h7 ha.1 ha.2
    have sb := seatL_nm h.f ho h7 hb.1 hb.2.1
    have e : nmR s r = { r with a := s[r.a.toNat]!, b := s[r.b.toNat]! } := by unfold nmR; rw [if_pos c3]
    rw [e]
    unfold keepN
    dsimp only
    rw [sa, sb]
  · by_cases c5 : r.kd ≤ 5
    · have ha := hr.a (by omega)
      have sa := seatL_nm h.f ho h7 ha.1 ha.2
      have e : nmR s r = { r with a := s[r.a.toNat]! } := by unfold nmR; rw [if_neg c3, if_pos c5]
      rw [e]
      unfold keepN
      dsimp only
      rw [if_neg (show ¬ r.kd = 1 by omega), if_neg (show ¬ r.kd = 2 by omega), if_neg (show ¬ r.kd = 3 by omega), if_neg (show ¬ r.kd = 1 by omega), if_neg (show ¬ r.kd = 2 by omega), if_neg (show ¬ r.kd = 3 by omega), sa]
    · have e : nmR s r = r := by unfold nmR; rw [if_neg c3, if_neg c5]
      rw [e]
      unfold keepN
      rw [if_neg (show ¬ r.kd = 1 by omega), if_neg (show ¬ r.kd = 2 by omega), if_neg (show ¬ r.kd = 3 by omega), if_neg (show ¬ r.kd = 4 by omega), if_neg (show ¬ r.kd = 5 by omega), if_neg (show ¬ r.kd = 1 by omega), if_neg (show ¬ r.kd = 2 by omega), if_neg (show ¬ r.kd = 3 by omega), if_neg (show ¬ r.kd = 4 by omega), if_neg (show ¬ r.kd = 5 by omega)]
theorem nmR_wt {s : List Int} {r : Ru} : (nmR s r).wt = r.wt := by
  unfold nmR
  split
  · rfl
  · split <;> rfl
theorem nmR_ok {n : Nat} {s : List Int} {r : Ru} (h : Full n s) (hr : RuOk n r) : RuOk n (nmR s r) := by
  obtain ⟨a1, a2, a3, a4, a5, a6, a7, a8⟩ := hr
  unfold nmR
  by_cases c3 : r.kd ≤ 3
  · rw [if_pos c3]
    have ha := a3 (by omega)
    have hb := a5 (by omega)
    have sa := (h.at ha.1 ha.2).2
    have sb := (h.at hb.1 hb.2.1).2
    exact ⟨a1, a2, fun _ => sa, fun h2 => absurd (show 5 < r.kd from h2) (by omega), fun _ => ⟨sb.1, sb.2, fun e => hb.2.2 (h.inj ha.1 ha.2 hb.1 hb.2.1 e)⟩, fun h2 => absurd (show 3 < r.kd from h2) (by omega), a7, a8⟩
  · rw [if_neg c3]
    by_cases c5 : r.kd ≤ 5
    · rw [if_pos c5]
      have ha := a3 (by omega)
      have sa := (h.at ha.1 ha.2).2
      exact ⟨a1, a2, fun _ => sa, fun h2 => absurd (show 5 < r.kd from h2) (by omega), fun h2 => absurd (show r.kd ≤ 3 from h2) c3, fun h2 => a6 h2, a7, a8⟩
    · rw [if_neg c5]
      exact ⟨a1, a2, a3, a4, a5, a6, a7, a8⟩
section
variable {gs gs' : List Gu} {rs : List Ru} {s : List Int}
theorem brkN_nm (h : Nmd gs gs' s) (hp : PaOk gs rs) {o : List Int} (ho : Full gs.length o) : ∀ i, i ≤ rs.length → brkN gs.length (seatL (reN s o)) (rankL gs' (reN s o)) (rs.map (nmR s)) i = brkN gs.length (seatL o) (rankL gs o) rs i
  | 0, _ => rfl
  | i + 1, hi => by
    simp only [brkN, brkN_nm h hp ho i (by omega), map_at (f := nmR s) (show i < rs.length by omega), keep_nm h ho hp.n7 (hp.rk i (by omega))]
theorem brkO_nm (h : Nmd gs gs' s) (hp : PaOk gs rs) {o : List Int} (ho : Full gs.length o) : brkO gs' (rs.map (nmR s)) (reN s o) = brkO gs rs o := by
  unfold brkO
  rw [List.length_map, h.l]
  exact brkN_nm h hp ho _ (Nat.le_refl _)
theorem strN_nm : ∀ i, i ≤ rs.length → strN (rs.map (nmR s)) i = strN rs i
  | 0, _ => rfl
  | i + 1, hi => by
    simp only [strN, strN_nm i (by omega), map_at (f := nmR s) (show i < rs.length by omega), nmR_wt]
theorem wtsN_nm {N : Nat} : ∀ i, i ≤ rs.length → wtsN N (rs.map (nmR s)) i = wtsN N rs i
  | 0, _ => rfl
  | i + 1, hi => by
    simp only [wtsN, wtsN_nm (N := N) i (by omega), map_at (f := nmR s) (show i < rs.length by omega), nmR_wt]
theorem strN_nm2 : strN (rs.map (nmR s)) (rs.map (nmR s)).length = strN rs rs.length := by
  rw [List.length_map, strN_nm _ (Nat.le_refl _)]
theorem brS_nm (h : Nmd gs gs' s) (hp : PaOk gs rs) {o : List Int} (ho : Full gs.length o) : brS gs' (rs.map (nmR s)) (reN s o) = brS gs rs o := by
  unfold brS
  rw [brkO_nm h hp ho, strN_nm2]
theorem okB_nm (h : Nmd gs gs' s) (hp : PaOk gs rs) {o : List Int} (ho : Full gs.length o) : okB gs' (rs.map (nmR s)) (reN s o) = okB gs rs o := by
  unfold okB
  rw [brkO_nm h hp ho, strN_nm2]
theorem prO_nm (h : Nmd gs gs' s) (hp : PaOk gs rs) {o : List Int} (ho : Full gs.length o) : prO gs' (rs.map (nmR s)) (reN s o) = prO gs rs o := by
  unfold prO priceN
  rw [brkO_nm h hp ho, List.length_map, wtsN_nm _ (Nat.le_refl _)]
/-- Each order stands for another one. -/
theorem reN_sur {n : Nat} (h : Full n s) {q : List Int} (hq : Full n q) : ∃ o, Full n o ∧ reN s o = q := by
  have hmem : ∀ y ∈ q, y ∈ s := fun y hy => by
    have := hq.r y hy
    have h2 := h.all (show y.toNat < n by omega)
    rwa [show ((y.toNat : Nat) : Int) = y by omega] at h2
  refine ⟨q.map fun y => (s.idxOf y : Int), ⟨?_, fun x hx => ?_, by rw [List.length_map, hq.l]⟩, ?_⟩
  · unfold List.Nodup
    rw [List.pairwise_map]
    refine List.Pairwise.imp_of_mem ?_ hq.nd
    intro a b ha hb hab e
    have h1 := List.idxOf_lt_length_iff.2 (hmem a ha)
    have h2 := List.idxOf_lt_length_iff.2 (hmem b hb)
    have g1 : s[s.idxOf a] = a := List.getElem_idxOf h1
    have g2 : s[s.idxOf b] = b := List.getElem_idxOf h2
    have e2 : s.idxOf a = s.idxOf b := by omega
    apply hab
    rw [← g1, ← g2]
    simp only [e2]
  · obtain ⟨y, hy, rfl⟩ := List.mem_map.1 hx
    have h1 := List.idxOf_lt_length_iff.2 (hmem y hy)
    have := h.l
    omega
  · unfold reN
    rw [List.map_map]
    have : q.map ((fun x : Int => s[x.toNat]!) ∘ fun y => (s.idxOf y : Int)) = q.map id := by
      apply List.map_congr_left
      intro y hy
      have h1 := List.idxOf_lt_length_iff.2 (hmem y hy)
      show s[((s.idxOf y : Nat) : Int).toNat]! = y
      rw [show ((s.idxOf y : Nat) : Int).toNat = s.idxOf y by omega, getElem!_pos s _ h1]
      exact List.getElem_idxOf h1
    rw [this, List.map_id]
theorem okL_nm (h : Nmd gs gs' s) (hp : PaOk gs rs) : (okL gs' (rs.map (nmR s))).Perm ((okL gs rs).map (reN s)) := by
  refine (List.perm_ext_iff_of_nodup okL_nodup ?_).2 fun o => ?_
  · unfold List.Nodup
    rw [List.pairwise_map]
    refine List.Pairwise.imp_of_mem ?_ okL_nodup
    intro a b ha hb hab e
    have fa := (mem_okL.1 ha).1
    have fb := (mem_okL.1 hb).1
    apply hab
    apply List.ext_getElem (by rw [fa.l, fb.l])
    intro j h1 h2
    have e1 : (reN s a)[j]! = (reN s b)[j]! := by rw [e]
    unfold reN at e1
    rw [map_at h1, map_at h2] at e1
    have b1 := fa.r _ (List.getElem_mem h1)
    have b2 := fb.r _ (List.getElem_mem h2)
    rw [getElem!_pos a j h1, getElem!_pos b j h2] at e1
    exact h.f.inj b1.1 b1.2 b2.1 b2.2 e1
  · rw [mem_okL, List.mem_map, h.l]
    constructor
    · rintro ⟨h1, h2⟩
      obtain ⟨q, hq, rfl⟩ := reN_sur h.f h1
      exact ⟨q, mem_okL.2 ⟨hq, by rw [← okB_nm h hp hq]; exact h2⟩, rfl⟩
    · rintro ⟨q, hq, rfl⟩
      obtain ⟨h1, h2⟩ := mem_okL.1 hq
      exact ⟨reN_full h.f h1, (okB_nm h hp h1).trans h2⟩
theorem okL_nm_len (h : Nmd gs gs' s) (hp : PaOk gs rs) : (okL gs' (rs.map (nmR s))).length = (okL gs rs).length := by
  rw [(okL_nm h hp).length_eq, List.length_map]
/-- The best ones of both parties. -/
theorem best_nm (h : Nmd gs gs' s) (hp : PaOk gs rs) :
    (bestF gs rs (okL gs rs) = none ∧ bestF gs' (rs.map (nmR s)) (okL gs' (rs.map (nmR s))) = none) ∨
    ∃ b c p, bestF gs rs (okL gs rs) = some (b, p) ∧ bestF gs' (rs.map (nmR s)) (okL gs' (rs.map (nmR s))) = some (c, p) := by
  have hl := okL_nm_len h hp
  have hm : ∀ o, o ∈ okL gs' (rs.map (nmR s)) ↔ o ∈ (okL gs rs).map (reN s) := fun o => (okL_nm h hp).mem_iff
  rcases bestF_is (gs := gs) (rs := rs) (F := okL gs rs) with ⟨e1, e2⟩ | ⟨b, e1, e2, e3⟩
  · left
    refine ⟨e2, ?_⟩
    rw [e1] at hl
    rw [List.length_eq_zero_iff.1 hl]
    rfl
  · right
    rcases bestF_is (gs := gs') (rs := rs.map (nmR s)) (F := okL gs' (rs.map (nmR s))) with ⟨f1, f2⟩ | ⟨c, f1, f2, f3⟩
    · exfalso
      rw [f1] at hl
      have := List.length_eq_zero_iff.1 hl.symm
      rw [this] at e2
      cases e2
    · obtain ⟨q, hq, rfl⟩ := List.mem_map.1 ((hm c).1 f2)
      have hqf := (mem_okL.1 hq).1
      have hbf := (mem_okL.1 e2).1
      have p1 := f3 _ ((hm _).2 (List.mem_map.2 ⟨b, e2, rfl⟩))
      have p2 := e3 q hq
      rw [prO_nm h hp hqf] at p1 f1
      rw [prO_nm h hp hbf] at p1
      have e : prO gs rs q = prO gs rs b := by omega
      exact ⟨b, reN s q, prO gs rs b, e1, by rw [f1, e]⟩
theorem few_same {St m : Nat} {A A' : List Nat} (h : ∀ a, a ∈ A ↔ a ∈ A') : ∀ K, fewK St m A K = fewK St m A' K
  | 0 => rfl
  | K + 1 => by
    have hc : chK St A K = chK St A' K := by
      unfold chK
      congr 1
      rw [Bool.eq_iff_iff, hitA_iff, hitA_iff]
      constructor
      · exact fun hh a ha => hh a ((h a).2 ha)
      · exact fun hh a ha => hh a ((h a).1 ha)
    unfold fewK
    rw [hc, few_same h K]
/-- The conflicts of both parties. -/
theorem conf_nm (h : Nmd gs gs' s) (hp : PaOk gs rs) {A A' : List Nat} {m : Nat} (hA : AllB gs rs (fillL gs.length gs.length []) A) (hA' : AllB gs' (rs.map (nmR s)) (fillL gs'.length gs'.length []) A') :
    fewK (strN (rs.map (nmR s)) (rs.map (nmR s)).length) m A' (strN (rs.map (nmR s)) (rs.map (nmR s)).length) = fewK (strN rs rs.length) m A (strN rs rs.length) := by
  rw [strN_nm2]
  symm
  apply few_same
  intro a
  constructor
  · intro ha
    obtain ⟨o, ho, rfl⟩ := hA.a a ha
    have hf := mem_orders.1 ho
    rw [← brS_nm h hp hf]
    exact hA'.o _ (by rw [h.l]; exact mem_orders.2 (reN_full h.f hf))
  · intro ha
    obtain ⟨q, hq, rfl⟩ := hA'.a a ha
    rw [h.l] at hq
    obtain ⟨o, ho, rfl⟩ := reN_sur h.f (mem_orders.1 hq)
    rw [brS_nm h hp ho]
    exact hA.o _ (mem_orders.2 ho)
end
end Go.Proofs.Ytlamceokhbigaaa

