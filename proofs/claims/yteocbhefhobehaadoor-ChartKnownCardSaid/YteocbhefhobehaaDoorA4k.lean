/- ChartLabels: its function answers true. -/
import Derived.Test.YteocbhefhobehaaDoorA3k
set_option linter.unusedVariables false
set_option linter.unusedSimpArgs false
namespace Go.Proofs.YteocbhefhobehaaDoor
open Go.AI

theorem take_next {xs : List Int} {i : Nat} (f : Int → Int) (h : i < xs.length) : (xs.take (i + 1)).map f = (xs.take i).map f ++ [f xs[i]!] := by
  rw [List.take_add_one, List.getElem?_eq_getElem h, getElem!_pos xs i h, List.map_append]; rfl
theorem own_ints {H : Heap} {v : Value} {xs : List Int} {B : Nat} (h : Own 3 H v (xs.map VI) B) : Ints H v xs := h.row

set_option maxRecDepth 100000 in
theorem labels_spec {v : Value} {H : Heap} {xs : List Int} {by' : Int} (hBase : Base H) (hv : Ints H v xs) (hx : ∀ x ∈ xs, inI64 x) :
    CallB Tryd.prog H.n 11 [v, .int .i64 by'] H (fun r _ => r = .bool true) := by
  refine vcF_spec callees (wr := false) rfl Tryd.func11 rfl ok11 (by simp [Tryd.ntmps11]) (Nat.le_refl _) ?_
  refine ⟨_, ints_len hv, ?_⟩
  refine ⟨fun h1 => ?_, fun h1 => ?_⟩
  · refine (of_spec (Nat.le_refl _) hv).mono ?_
    rintro r H1 ⟨hof, hk⟩
    rw [OfR, if_pos (by omega)] at hof
    subst hof
    refine (refused_spec hk.1).mono ?_
    rintro r H2 ⟨rfl, rfl⟩
    refine CallB.known rfl (base_keep hBase hk) hk.1 ?_
    exact ⟨rfl, rfl⟩
  refine ⟨_, ints_len hv, ?_⟩
  refine ⟨fun h2 => ?_, fun h2 => ?_⟩
  · refine (of_spec (Nat.le_refl _) hv).mono ?_
    rintro r H1 ⟨hof, hk⟩
    rw [OfR, if_neg (by omega), if_pos (by omega)] at hof
    subst hof
    refine (refused_spec hk.1).mono ?_
    rintro r H2 ⟨rfl, rfl⟩
    refine CallB.known rfl (base_keep hBase hk) hk.1 ?_
    exact ⟨rfl, rfl⟩
  refine (of_spec (Nat.le_refl _) hv).mono ?_
  rintro r H1 ⟨hof, hk⟩
  rw [OfR, if_neg (by omega), if_neg (by omega)] at hof
  obtain ⟨u, rfl, hu⟩ := hof
  refine ⟨fun h => absurd rfl h, fun _ => ?_⟩
  have hui : Ints H1 u (num xs []) := own_ints hu
  have hvi : Ints H1 v xs := hv.keep hk
  refine ⟨_, ints_len hui, ?_⟩
  refine ⟨_, ints_len hvi, ?_⟩
  refine ⟨fun h => absurd (by rw [num_length]) h, fun _ => ?_⟩
  refine (check_spec hk.1 hui).mono ?_
  rintro r H2 ⟨rfl, rfl⟩
  rw [check_of (by omega) (by omega)]
  refine ⟨fun h => absurd rfl h, fun _ => ?_⟩
  have hpl : (num xs []).length = xs.length := num_length xs []
  refine WCv.loop callees false (α := Int × Value)
    (fun a => [(0, v), (1, .int .i64 by'), (7, u), (9, a.2), (10, .int .i64 a.1)])
    (fun a Hx => 0 ≤ a.1 ∧ a.1 ≤ xs.length ∧ Keep H2 Hx ∧ Own 3 Hx a.2 (((xs.take a.1.toNat).map (xorI · by')).map VI) H2.n) (fun a => xs.length - a.1.toNat) (0, .slice none 0 0) ?_ ?_ ?_
  · exact ⟨rfl, rfl, rfl, rfl, rfl, trivial⟩
  · exact ⟨by simp, by simp, Keep.refl _, .inl ⟨rfl, by simp⟩⟩
  rintro ⟨i, w⟩ Hx ⟨hi0, hi1, hkx, hw⟩ hBx
  simp only at hi0 hi1 hw
  have hux : Ints Hx u (num xs []) := hui.keep hkx
  have hvx : Ints Hx v xs := hvi.keep hkx
  refine ⟨_, ints_len hux, ?_⟩
  refine ⟨fun h3 => ?_, fun h3 => ?_⟩
  · rw [hpl] at h3
    refine WCv.loop callees false (α := Int)
      (fun a => [(0, v), (1, .int .i64 by'), (7, u), (9, w), (10, .int .i64 i), (11, .int .i64 a)])
      (fun a Hy => Hy = Hx ∧ 0 ≤ a ∧ a ≤ i) (fun a => i.toNat - a.toNat) 0 ?_ ?_ ?_
    · exact ⟨rfl, rfl, rfl, rfl, rfl, rfl, trivial⟩
    · exact ⟨rfl, by simp, by simpa using hi0⟩
    rintro k Hy ⟨hHy, hk0, hk1⟩ _
    subst hHy
    refine ⟨fun h4 => ?_, fun h4 => ?_⟩
    · have hne := num_eq (xs := xs) (i := i.toNat) (k := k.toNat) (by omega) (by omega)
      refine ⟨_, ints_addr hvx hi0 h3, _, ints_load hvx hi0 h3, ?_⟩
      refine ⟨_, ints_addr hvx hk0 (by omega), _, ints_load hvx hk0 (by omega), ?_⟩
      refine ⟨fun h5 => ?_, fun h5 => ?_⟩
      · refine ⟨_, ints_addr hux hi0 (by omega), _, ints_load hux hi0 (by omega), ?_⟩
        refine ⟨_, ints_addr hux hk0 (by omega), _, ints_load hux hk0 (by omega), ?_⟩
        refine ⟨fun h6 => ?_, fun h6 => ?_⟩
        · refine ⟨_, fun tm ha => step1_boolNeq un4 rfl (ev_tmp ha rfl) (ev_tmp ha rfl), ?_⟩
          refine ⟨⟨by omega, by omega⟩, ?_⟩
          exact ⟨k + 1, ⟨rfl, rfl, rfl, rfl, rfl, rfl, trivial⟩, by show i.toNat - (k + 1).toNat < i.toNat - k.toNat; omega, rfl, by omega, by omega⟩
        · exact absurd (hne.2 h5) h6
      · refine ⟨_, ints_addr hux hi0 (by omega), _, ints_load hux hi0 (by omega), ?_⟩
        refine ⟨_, ints_addr hux hk0 (by omega), _, ints_load hux hk0 (by omega), ?_⟩
        refine ⟨fun h6 => ?_, fun h6 => ?_⟩
        · exact absurd (hne.1 h6) h5
        · refine ⟨_, fun tm ha => step1_boolNeq un4 rfl (ev_tmp ha rfl) (ev_tmp ha rfl), ?_⟩
          refine ⟨⟨by omega, by omega⟩, ?_⟩
          exact ⟨k + 1, ⟨rfl, rfl, rfl, rfl, rfl, rfl, trivial⟩, by show i.toNat - (k + 1).toNat < i.toNat - k.toNat; omega, rfl, by omega, by omega⟩
    · refine ⟨_, ints_addr hvx hi0 h3, _, ints_load hvx hi0 h3, ?_⟩
      refine ⟨_, fun tm ha => step1_xor rfl (ev_tmp ha rfl) (ev_tmp ha rfl), ?_⟩
      refine ⟨_, _, build_one un22 one3 rfl, ?_⟩
      obtain ⟨r, H3, b, h5, h6, h7, h8⟩ := append_own (w := .int .i64 (xorI xs[i.toNat]! by')) un22 one3 (by omega) hw hkx.1 (by simp; omega)
      refine ⟨_, _, _, h5, Nat.le_trans hk.1 h6, ?_⟩
      refine ⟨⟨by omega, by omega⟩, ?_⟩
      refine ⟨(i + 1, r), ⟨rfl, rfl, rfl, rfl, rfl, trivial⟩, ?_, ?_, ?_, h8 _ hkx (Nat.le_refl _), ?_⟩
      · show xs.length - (i + 1).toNat < xs.length - i.toNat; omega
      · show 0 ≤ i + 1; omega
      · show i + 1 ≤ xs.length; omega
      · show Own 3 H3 r (((xs.take (i + 1).toNat).map (xorI · by')).map VI) H2.n
        rw [show (i + 1).toNat = i.toNat + 1 by omega, take_next _ (by omega), List.map_append]
        exact h7
  · rw [hpl] at h3
    have hi : i.toNat = xs.length := by omega
    rw [hi, List.take_length] at hw
    refine (of_spec hBx hux).mono ?_
    rintro r H4 ⟨hof, hk4⟩
    rw [OfR, hpl, if_neg (by omega), if_neg (by omega), num_self] at hof
    obtain ⟨q, rfl, hq⟩ := hof
    have hw4 : Ints H4 w (xs.map (xorI · by')) := (own_ints hw).keep hk4
    refine (of_spec (Nat.le_trans hBx hk4.1) hw4).mono ?_
    rintro r H5 ⟨hof, hk5⟩
    rw [OfR, List.length_map, if_neg (by omega), if_neg (by omega), num_inj _ xs (fun a b ha hb => xorI_inj (hx a ha) (hx b hb))] at hof
    obtain ⟨q', rfl, hq'⟩ := hof
    have hB5 : H.n ≤ H5.n := Nat.le_trans hBx (Nat.le_trans hk4.1 hk5.1)
    refine ⟨fun _ => ?_, fun h => absurd rfl h⟩
    refine ⟨fun _ => ?_, fun h => absurd rfl h⟩
    refine (eq_spec hB5 ((hux.keep hk4).keep hk5) ((own_ints hq).keep hk5) (by omega)).mono ?_
    rintro r H6 ⟨hr, rfl⟩
    rw [decide_eq_true rfl] at hr
    subst hr
    refine (eq_spec hB5 ((hux.keep hk4).keep hk5) (own_ints hq') (by omega)).mono ?_
    rintro r H7 ⟨hr, rfl⟩
    rw [decide_eq_true rfl] at hr
    subst hr
    refine CallB.known rfl (base_keep hBase (((hk.trans hkx).trans hk4).trans hk5)) hB5 ?_
    exact ⟨rfl, rfl⟩
end Go.Proofs.YteocbhefhobehaaDoor
