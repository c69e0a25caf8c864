
/- A guest who always writes the best guess: the law's function. -/
import Derived.Test.YtlpkbcgdcimglaaGbd
set_option linter.unusedVariables false
set_option linter.unusedSimpArgs false
namespace Go.Proofs.Ytlpkbcgdcimglaa.Sc
open Go.AI Go.Proofs.Ytlpkbcgdcimglaa
set_option linter.unusedVariables false
set_option linter.unusedSimpArgs false
theorem ckK_ok {ks : List Int} (hd : Dist ks) (hk : ∀ i, i < ks.length → 1 ≤ ks[i]! ∧ ks[i]! ≤ 6) : ∀ m i, i + m ≤ ks.length → ckK ks m i = 0
  | 0, _, _ => rfl
  | m + 1, i, h => by
    have := hk i (by omega)
    rw [ckK, if_neg (by omega), if_neg ?_]
    · exact ckK_ok hd hk m (i + 1) (by omega)
    · intro hm
      obtain ⟨j, hj, he⟩ := List.getElem_of_mem hm
      rw [List.length_take] at hj
      rw [List.getElem_take] at he
      have := hd j i (by omega) (by omega) (by rw [getElem!_pos ks j (by omega)]; exact he)
      omega
theorem Valid.ok {a c w n l : Int} {ks : List Int} (h : Valid a c w n l ks) : scE a c w n l ks = 0 := by
  obtain ⟨p1, p2, p3, p4, p5⟩ := h.pts
  rw [scE, if_neg (fun hp => hp ⟨by omega, by omega, by omega, by omega, by omega⟩), if_neg (by have := h.len; omega)]
  exact ckK_ok h.dist h.keys _ _ (by omega)
theorem check_of_rank {xs : List Int} {r : Int} (h : rankR xs = (r, 0)) : check xs = 0 := by
  unfold rankR at h
  split at h
  · assumption
  · exact (Prod.ext_iff.1 h).2
theorem wh_iff {ts ws : List Int} (ct : check ts = 0) (cw : check ws = 0) (hl : ws.length = ts.length) : ((whN ts ws : Int) = 1 ∧ ts = ws) ∨ ((whN ts ws : Int) = 0 ∧ ts ≠ ws) := by
  have hp : ∀ i, i < ts.length → 0 ≤ ts[i]! := fun i hi => (check_bound ct hi).1
  have h9 := (check_from ct).2
  unfold whN
  by_cases h : pkN ts ws ws.length = ws.length
  · rw [if_pos h]
    refine .inl ⟨rfl, ?_⟩
    have h1 := (whole_same hp hl h).num (by omega) (by omega)
    rwa [num_own ct, num_own cw] at h1
  · rw [if_neg h]
    refine .inr ⟨rfl, fun e => h ?_⟩
    subst e
    exact (self_nums hp ts.length (Nat.le_refl _)).1
set_option maxRecDepth 100000 in
theorem mark2_spec {B : Nat} {H : Heap} {a c w n l : Int} {k v u : Value} {ks ts ws : List Int} (hB : B ≤ H.n) (hk : Ints H k ks) (hV : Valid a c w n l ks) (hv : Ints H v ts) (hu : Ints H u ws) (ct : check ts = 0) (cw : check ws = 0) (hl : ws.length = ts.length) :
    CallB Try.prog B 72 [Sv a c w n l k, v, u] H (fun r H' => (∃ p q x y z o s h : Int, r = .tuple #[Xv p q x y z o s h, .int .i64 0] ∧ ((o = 1 ∧ ts = ws) ∨ (o = 0 ∧ ts ≠ ws))) ∧ Keep H H') := by
  have h9 := (check_from ct).2
  have hs0 := hV.ok
  have hkl : ks.length < 1000000 := by
    have hs := hs0
    unfold scE at hs
    split at hs
    · cases hs
    · split at hs
      · cases hs
      · omega
  have hb0 : bothE a c w n l ks ts = 0 := by rw [bothE, if_neg (fun h => h hs0)]; exact ct
  have ha0 : ansE ws ts.length = 0 := by
    unfold ansE
    rw [if_neg (by omega), if_pos]
    refine List.all_eq_true.2 fun x hx => ?_
    obtain ⟨j, hj, rfl⟩ := mem_at.1 hx
    have := check_bound cw hj
    unfold okN
    rw [decide_eq_true (by omega), decide_eq_true (by omega)]; rfl
  have h0 : markE a c w n l ks ts ws = 0 := by rw [markE, if_neg (fun h => h hb0)]; exact ha0
  refine (mark_spec hB hk hkl hv hu (by omega) h0).mono ?_
  rintro r H' ⟨⟨ho, rfl, _⟩, k1⟩
  exact ⟨⟨_, _, _, _, _, _, _, _, rfl, wh_iff ct cw hl⟩, k1⟩
/-- Where one partition was, if it was. -/
def Met (d : Int) (ws L : List Int) (i : Nat) (s : Int) : Prop := (s = 0 ∧ ∀ j : Nat, j < i → unL d j ≠ ws) ∨ ∃ j : Nat, j < i ∧ unL d j = ws ∧ s = L[j]!
theorem Met.hit {d : Int} {ws L : List Int} {i : Nat} {s : Int} (h : Met d ws L i s) (hu : ∀ j : Nat, j ≤ i → rankR (unL d j) = ((j : Int), 0)) (he : unL d i = ws) : Met d ws L (i + 1) (s + L[i]!) := by
  rcases h with ⟨rfl, _⟩ | ⟨j, hj, h1, rfl⟩
  · exact .inr ⟨i, by omega, he, by omega⟩
  · exfalso
    have h2 := hu j (by omega)
    rw [h1, ← he, hu i (Nat.le_refl _)] at h2
    have := (Prod.ext_iff.1 h2).1
    simp at this
    omega
theorem Met.miss {d : Int} {ws L : List Int} {i : Nat} {s : Int} (h : Met d ws L i s) (he : unL d i ≠ ws) : Met d ws L (i + 1) s := by
  rcases h with ⟨rfl, h⟩ | ⟨j, hj, h1, rfl⟩
  · refine .inl ⟨rfl, fun j hj => ?_⟩
    by_cases hji : j = i
    · subst hji; exact he
    · exact h j (by omega)
  · exact .inr ⟨j, by omega, h1, rfl⟩
theorem Met.bound {d : Int} {ws L : List Int} {i : Nat} {s m : Int} (h : Met d ws L i s) (hi : i ≤ L.length) (hL : ∀ j, j < L.length → 0 ≤ L[j]! ∧ L[j]! ≤ m) (hm : 0 ≤ m) : 0 ≤ s ∧ s ≤ m := by
  rcases h with ⟨rfl, _⟩ | ⟨j, hj, _, rfl⟩
  · omega
  · exact hL j (by omega)
set_option maxRecDepth 100000 in
set_option maxHeartbeats 4000000 in
theorem guessed_spec {v : Value} {H : Heap} {nums : List Int} (hBase : Base H) (hv : Ints H v nums) (hx : nums.length ≤ 9223372036854775807) (_ : ∀ x ∈ nums, inI64 x) :
    CallB Try.prog H.n 16 [v] H (fun r _ => r = .bool true) := by
  have hn : H.n ≤ H.n := Nat.le_refl _
  refine CV.enter callees false rfl Try.func16 rfl (by kernel_rfl) (Nat.le_of_ble_eq_true rfl) hn ?_
  repeat' first
    | refine CO.cons rfl ?_
    | refine CO.nil ?_
    | refine CV.seq ?_
    | refine CV.region callees ?_
    | refine CV.cond ?_
    | refine CV.block ?_
    | refine CV.skip ?_
    | refine CV.exit ?_
    | refine CV.ret ?_
    | refine CV.scope ?_
    | refine CV.draw callees (by decide +kernel) ?_
    | refine CH.cons rfl ?_
    | refine CH.nil ?_
    | refine CO.consG rfl ?_
    | refine CH.consG rfl ?_
    | refine CG.cons rfl ?_
    | refine CR.cons ?_
    | refine CR.nil ?_
    | refine CG.nil ?_
    | refine CG.consG rfl ?_
    | refine ⟨(rfl : plain _ = true), ?_⟩
    | refine ⟨(rfl : nilOk _ = some _), ?_⟩
    | refine ⟨_, ints_len (by assumption), ?_⟩
    | refine ⟨_, ints_addr (by assumption) (by omega) (by omega), ?_⟩
    | refine ⟨_, ints_load (by assumption) (by omega) (by omega), ?_⟩
    | refine ⟨(⟨by omega, by omega⟩ : inI64 _), ?_⟩
    | refine ⟨_, fun tm ha => step1_max rfl (ev_tmp ha rfl) (ev_tmp ha rfl), ?_⟩
    | refine ⟨_, fun tm ha => step1_min rfl (ev_tmp ha rfl) (ev_tmp ha rfl), ?_⟩
    | (refine ⟨fun _ => ?_, fun _ => ?_⟩ <;> first | (exfalso; omega) | skip)
    | fail
  refine (boxOf_spec hn hv hx).mono ?_
  rintro r H1 ⟨⟨b, rfl, hb, hbox⟩, k1⟩
  have l1 := k1.1
  have hbn := hbox.1
  repeat' first
    | refine CO.cons rfl ?_
    | refine CO.nil ?_
    | refine CV.seq ?_
    | refine CV.region callees ?_
    | refine CV.cond ?_
    | refine CV.block ?_
    | refine CV.skip ?_
    | refine CV.exit ?_
    | refine CV.ret ?_
    | refine CV.scope ?_
    | refine CV.draw callees (by decide +kernel) ?_
    | refine CH.cons rfl ?_
    | refine CH.nil ?_
    | refine CO.consG rfl ?_
    | refine CH.consG rfl ?_
    | refine CG.cons rfl ?_
    | refine CR.cons ?_
    | refine CR.nil ?_
    | refine CG.nil ?_
    | refine CG.consG rfl ?_
    | refine ⟨(rfl : plain _ = true), ?_⟩
    | refine ⟨(rfl : nilOk _ = some _), ?_⟩
    | refine ⟨_, ints_len (by assumption), ?_⟩
    | refine ⟨_, ints_addr (by assumption) (by omega) (by omega), ?_⟩
    | refine ⟨_, ints_load (by assumption) (by omega) (by omega), ?_⟩
    | refine ⟨(⟨by omega, by omega⟩ : inI64 _), ?_⟩
    | refine ⟨_, fun tm ha => step1_max rfl (ev_tmp ha rfl) (ev_tmp ha rfl), ?_⟩
    | refine ⟨_, fun tm ha => step1_min rfl (ev_tmp ha rfl) (ev_tmp ha rfl), ?_⟩
    | (refine ⟨fun _ => ?_, fun _ => ?_⟩ <;> first | (exfalso; omega) | skip)
    | fail
  refine (stockOfG_spec (kn := 3) (ct := 3) (dr := 5) (by omega) (by omega) (by omega) hb l1 hbox).mono ?_
  rintro r H2 ⟨⟨k, xs, d, rfl, hk2, hS, hd5, _, _⟩, hb2, x2⟩
  have l2 := x2.1
  repeat' first
    | refine CO.cons rfl ?_
    | refine CO.nil ?_
    | refine CV.seq ?_
    | refine CV.region callees ?_
    | refine CV.cond ?_
    | refine CV.block ?_
    | refine CV.skip ?_
    | refine CV.exit ?_
    | refine CV.ret ?_
    | refine CV.scope ?_
    | refine CV.draw callees (by decide +kernel) ?_
    | refine CH.cons rfl ?_
    | refine CH.nil ?_
    | refine CO.consG rfl ?_
    | refine CH.consG rfl ?_
    | refine CG.cons rfl ?_
    | refine CR.cons ?_
    | refine CR.nil ?_
    | refine CG.nil ?_
    | refine CG.consG rfl ?_
    | refine ⟨(rfl : plain _ = true), ?_⟩
    | refine ⟨(rfl : nilOk _ = some _), ?_⟩
    | refine ⟨_, ints_len (by assumption), ?_⟩
    | refine ⟨_, ints_addr (by assumption) (by omega) (by omega), ?_⟩
    | refine ⟨_, ints_load (by assumption) (by omega) (by omega), ?_⟩
    | refine ⟨(⟨by omega, by omega⟩ : inI64 _), ?_⟩
    | refine ⟨_, fun tm ha => step1_max rfl (ev_tmp ha rfl) (ev_tmp ha rfl), ?_⟩
    | refine ⟨_, fun tm ha => step1_min rfl (ev_tmp ha rfl) (ev_tmp ha rfl), ?_⟩
    | (refine ⟨fun _ => ?_, fun _ => ?_⟩ <;> first | (exfalso; omega) | skip)
    | fail
  refine (scoringOf_spec hb (by omega) hb2).mono ?_
  rintro r H3 ⟨⟨a, c, w, n, l, kk, ks, rfl, hV, hkk⟩, hb3, x3⟩
  have l3 := x3.1
  have hk3 := own_box hk2 x3 hb2
  repeat' first
    | refine CO.cons rfl ?_
    | refine CO.nil ?_
    | refine CV.seq ?_
    | refine CV.region callees ?_
    | refine CV.cond ?_
    | refine CV.block ?_
    | refine CV.skip ?_
    | refine CV.exit ?_
    | refine CV.ret ?_
    | refine CV.scope ?_
    | refine CV.draw callees (by decide +kernel) ?_
    | refine CH.cons rfl ?_
    | refine CH.nil ?_
    | refine CO.consG rfl ?_
    | refine CH.consG rfl ?_
    | refine CG.cons rfl ?_
    | refine CR.cons ?_
    | refine CR.nil ?_
    | refine CG.nil ?_
    | refine CG.consG rfl ?_
    | refine ⟨(rfl : plain _ = true), ?_⟩
    | refine ⟨(rfl : nilOk _ = some _), ?_⟩
    | refine ⟨_, ints_len (by assumption), ?_⟩
    | refine ⟨_, ints_addr (by assumption) (by omega) (by omega), ?_⟩
    | refine ⟨_, ints_load (by assumption) (by omega) (by omega), ?_⟩
    | refine ⟨(⟨by omega, by omega⟩ : inI64 _), ?_⟩
    | refine ⟨_, fun tm ha => step1_max rfl (ev_tmp ha rfl) (ev_tmp ha rfl), ?_⟩
    | refine ⟨_, fun tm ha => step1_min rfl (ev_tmp ha rfl) (ev_tmp ha rfl), ?_⟩
    | (refine ⟨_, _, allocK, ?_⟩)
    | (refine ⟨fun _ => ?_, fun _ => ?_⟩ <;> first | (exfalso; omega) | skip)
    | fail
  generalize hs4 : H3.new (Kc (.slice none 0 0) 0) = H4
  have hg4 := new_get hs4
  have k4 := new_keep hs4
  have n4 := new_n hs4
  obtain ⟨b4, hb4⟩ : ∃ b4, H3.n = b4 := ⟨_, rfl⟩
  rw [hb4] at hg4 n4 ⊢
  repeat' first
    | refine CO.cons rfl ?_
    | refine CO.nil ?_
    | refine CV.seq ?_
    | refine CV.region callees ?_
    | refine CV.cond ?_
    | refine CV.block ?_
    | refine CV.skip ?_
    | refine CV.exit ?_
    | refine CV.ret ?_
    | refine CV.scope ?_
    | refine CV.draw callees (by decide +kernel) ?_
    | refine CH.cons rfl ?_
    | refine CH.nil ?_
    | refine CO.consG rfl ?_
    | refine CH.consG rfl ?_
    | refine CG.cons rfl ?_
    | refine CR.cons ?_
    | refine CR.nil ?_
    | refine CG.nil ?_
    | refine CG.consG rfl ?_
    | refine ⟨(rfl : plain _ = true), ?_⟩
    | refine ⟨(rfl : nilOk _ = some _), ?_⟩
    | refine ⟨_, ints_len (by assumption), ?_⟩
    | refine ⟨_, ints_addr (by assumption) (by omega) (by omega), ?_⟩
    | refine ⟨_, ints_load (by assumption) (by omega) (by omega), ?_⟩
    | refine ⟨(⟨by omega, by omega⟩ : inI64 _), ?_⟩
    | refine ⟨_, fun tm ha => step1_max rfl (ev_tmp ha rfl) (ev_tmp ha rfl), ?_⟩
    | refine ⟨_, fun tm ha => step1_min rfl (ev_tmp ha rfl) (ev_tmp ha rfl), ?_⟩
    | (refine ⟨_, _, allocS, ?_⟩)
    | (refine ⟨fun _ => ?_, fun _ => ?_⟩ <;> first | (exfalso; omega) | skip)
    | fail
  generalize hs5 : Heap.new H4 _ = H5
  have hg5 := new_get hs5
  have k5 := new_keep hs5
  have n5 := new_n hs5
  obtain ⟨b5, hb5⟩ : ∃ b5, H4.n = b5 := ⟨_, rfl⟩
  rw [hb5] at hg5 n5 ⊢
  have hg45 : H5.get b4 = some (Kc (.slice none 0 0) 0) := by rw [k5.2 b4 (by omega)]; exact hg4
  repeat' first
    | refine CO.cons rfl ?_
    | refine CO.nil ?_
    | refine CV.seq ?_
    | refine CV.region callees ?_
    | refine CV.cond ?_
    | refine CV.block ?_
    | refine CV.skip ?_
    | refine CV.exit ?_
    | refine CV.ret ?_
    | refine CV.scope ?_
    | refine CV.draw callees (by decide +kernel) ?_
    | refine CH.cons rfl ?_
    | refine CH.nil ?_
    | refine CO.consG rfl ?_
    | refine CH.consG rfl ?_
    | refine CG.cons rfl ?_
    | refine CR.cons ?_
    | refine CR.nil ?_
    | refine CG.nil ?_
    | refine CG.consG rfl ?_
    | refine ⟨(rfl : plain _ = true), ?_⟩
    | refine ⟨(rfl : nilOk _ = some _), ?_⟩
    | refine ⟨_, ints_len (by assumption), ?_⟩
    | refine ⟨_, ints_addr (by assumption) (by omega) (by omega), ?_⟩
    | refine ⟨_, ints_load (by assumption) (by omega) (by omega), ?_⟩
    | refine ⟨(⟨by omega, by omega⟩ : inI64 _), ?_⟩
    | refine ⟨_, fun tm ha => step1_max rfl (ev_tmp ha rfl) (ev_tmp ha rfl), ?_⟩
    | refine ⟨_, fun tm ha => step1_min rfl (ev_tmp ha rfl) (ev_tmp ha rfl), ?_⟩
    | (refine ⟨fun _ => ?_, fun _ => ?_⟩ <;> first | (exfalso; omega) | skip)
    | fail
  refine ⟨_, _, storeK hk3.row.oneC.1 hg45, by omega, ?_⟩
  generalize hs6 : Heap.set H5 b4 _ = H6
  have hg6 : H6.get b4 = some (Kc k d) := set_get hs6
  have n6 := set_n hs6
  have o6 := set_old hs6
  have hg56 : H6.get b5 = some (Sc 0 0 0 0 0 (.slice none 0 0)) := by rw [o6 b5 (by omega)]; exact hg5
  repeat' first
    | refine CO.cons rfl ?_
    | refine CO.nil ?_
    | refine CV.seq ?_
    | refine CV.region callees ?_
    | refine CV.cond ?_
    | refine CV.block ?_
    | refine CV.skip ?_
    | refine CV.exit ?_
    | refine CV.ret ?_
    | refine CV.scope ?_
    | refine CV.draw callees (by decide +kernel) ?_
    | refine CH.cons rfl ?_
    | refine CH.nil ?_
    | refine CO.consG rfl ?_
    | refine CH.consG rfl ?_
    | refine CG.cons rfl ?_
    | refine CR.cons ?_
    | refine CR.nil ?_
    | refine CG.nil ?_
    | refine CG.consG rfl ?_
    | refine ⟨(rfl : plain _ = true), ?_⟩
    | refine ⟨(rfl : nilOk _ = some _), ?_⟩
    | refine ⟨_, ints_len (by assumption), ?_⟩
    | refine ⟨_, ints_addr (by assumption) (by omega) (by omega), ?_⟩
    | refine ⟨_, ints_load (by assumption) (by omega) (by omega), ?_⟩
    | refine ⟨(⟨by omega, by omega⟩ : inI64 _), ?_⟩
    | refine ⟨_, fun tm ha => step1_max rfl (ev_tmp ha rfl) (ev_tmp ha rfl), ?_⟩
    | refine ⟨_, fun tm ha => step1_min rfl (ev_tmp ha rfl) (ev_tmp ha rfl), ?_⟩
    | (refine ⟨fun _ => ?_, fun _ => ?_⟩ <;> first | (exfalso; omega) | skip)
    | fail
  refine ⟨_, _, storeS hkk.row.oneC.1 hg56, by omega, ?_⟩
  generalize hs7 : Heap.set H6 b5 _ = H7
  have hg57 : H7.get b5 = some (Sc a c w n l kk) := set_get hs7
  have n7 := set_n hs7
  have o7 := set_old hs7
  have hg47 : H7.get b4 = some (Kc k d) := by rw [o7 b4 (by omega)]; exact hg6
  have k36 : Keep H3 H6 := keep_put (k4.trans k5) (by omega) o6 n6
  have k37 : Keep H3 H7 := keep_put k36 (by omega) o7 n7
  have hk7 : Ints H7 k xs := Row.keep hk3.row k37
  have hkk7 : Ints H7 kk ks := Row.keep hkk.row k37
  have hb7 : Box b H7 := hb3.keep k37
  obtain ⟨s1, s2, s3, s4, s5, s6⟩ := id hS
  have hdn : d = ((d.toNat : Nat) : Int) := by omega
  obtain ⟨c0, c1, c2⟩ := cnt_small (n := d.toNat) (by omega) (by omega)
  have hlen := shapes_len (xs := xs) (n := d.toNat)
  have hLn : ∀ i, i < (shapesL xs d.toNat).length → 0 ≤ (shapesL xs d.toNat)[i]! ∧ (shapesL xs d.toNat)[i]! ≤ 3904305912313344 := fun i hi => by
    have hbl := bsL_len (n := d.toNat)
    obtain ⟨q1, q2, q3, q4⟩ := bsL_facts (n := d.toNat) (by omega) (by omega) i (by omega)
    have hw := ways_bound q2 q3 9 (pad xs) (by omega) (pad_len s2) (pad_all s2 s3)
    have hr := Int.le_trans hw.2 (pow54m q4)
    have he : (shapesL xs d.toNat)[i]! = waysN (bsL d.toNat)[i]! 9 (pad xs) := by
      have h3 : i < (bsL d.toNat).length := by omega
      rw [getElem!_pos _ i hi]
      simp only [shapesL, outL, List.getElem_map, List.getElem_range]
      rw [if_pos h3]
    rw [he]; exact ⟨hw.1, hr⟩
  have hun := fun (i : Nat) => un_facts (n := d.toNat) (r := i) (by omega) (by omega)
  rw [← hdn] at hun
  repeat' first
    | refine CO.cons rfl ?_
    | refine CO.nil ?_
    | refine CV.seq ?_
    | refine CV.region callees ?_
    | refine CV.cond ?_
    | refine CV.block ?_
    | refine CV.skip ?_
    | refine CV.exit ?_
    | refine CV.ret ?_
    | refine CV.scope ?_
    | refine CV.draw callees (by decide +kernel) ?_
    | refine CH.cons rfl ?_
    | refine CH.nil ?_
    | refine CO.consG rfl ?_
    | refine CH.consG rfl ?_
    | refine CG.cons rfl ?_
    | refine CR.cons ?_
    | refine CR.nil ?_
    | refine CG.nil ?_
    | refine CG.consG rfl ?_
    | refine ⟨(rfl : plain _ = true), ?_⟩
    | refine ⟨(rfl : nilOk _ = some _), ?_⟩
    | refine ⟨_, ints_len (by assumption), ?_⟩
    | refine ⟨_, ints_addr (by assumption) (by omega) (by omega), ?_⟩
    | refine ⟨_, ints_load (by assumption) (by omega) (by omega), ?_⟩
    | refine ⟨(⟨by omega, by omega⟩ : inI64 _), ?_⟩
    | refine ⟨_, fun tm ha => step1_max rfl (ev_tmp ha rfl) (ev_tmp ha rfl), ?_⟩
    | refine ⟨_, fun tm ha => step1_min rfl (ev_tmp ha rfl) (ev_tmp ha rfl), ?_⟩
    | (refine ⟨_, loadK hg47, ?_⟩)
    | (refine ⟨fun _ => ?_, fun _ => ?_⟩ <;> first | (exfalso; omega) | skip)
    | fail
  refine (Guess_spec (by omega) hk7 hS (by omega)).mono ?_
  rintro r H8 ⟨⟨gp, m, rfl, hm, hgp⟩, k8⟩
  have l8 := k8.1
  have hg48 : H8.get b4 = some (Kc k d) := by rw [k8.2 b4 (by omega)]; exact hg47
  have hk8 : Ints H8 k xs := Row.keep hk7 k8
  have hix := List.idxOf_lt_length_iff.2 (max_mem hm)
  have hia : (shapesL xs d.toNat)[(shapesL xs d.toNat).idxOf m]! = m := by rw [getElem!_pos (shapesL xs d.toNat) _ hix, List.getElem_idxOf]
  repeat' first
    | refine CO.cons rfl ?_
    | refine CO.nil ?_
    | refine CV.seq ?_
    | refine CV.region callees ?_
    | refine CV.cond ?_
    | refine CV.block ?_
    | refine CV.skip ?_
    | refine CV.exit ?_
    | refine CV.ret ?_
    | refine CV.scope ?_
    | refine CV.draw callees (by decide +kernel) ?_
    | refine CH.cons rfl ?_
    | refine CH.nil ?_
    | refine CO.consG rfl ?_
    | refine CH.consG rfl ?_
    | refine CG.cons rfl ?_
    | refine CR.cons ?_
    | refine CR.nil ?_
    | refine CG.nil ?_
    | refine CG.consG rfl ?_
    | refine ⟨(rfl : plain _ = true), ?_⟩
    | refine ⟨(rfl : nilOk _ = some _), ?_⟩
    | refine ⟨_, ints_len (by assumption), ?_⟩
    | refine ⟨_, ints_addr (by assumption) (by omega) (by omega), ?_⟩
    | refine ⟨_, ints_load (by assumption) (by omega) (by omega), ?_⟩
    | refine ⟨(⟨by omega, by omega⟩ : inI64 _), ?_⟩
    | refine ⟨_, fun tm ha => step1_max rfl (ev_tmp ha rfl) (ev_tmp ha rfl), ?_⟩
    | refine ⟨_, fun tm ha => step1_min rfl (ev_tmp ha rfl) (ev_tmp ha rfl), ?_⟩
    | (refine ⟨_, loadK hg48, ?_⟩)
    | (refine ⟨fun _ => ?_, fun _ => ?_⟩ <;> first | (exfalso; omega) | skip)
    | fail
  refine (Shapes_spec (by omega) hk8 hS (by omega)).mono ?_
  rintro r H9 ⟨⟨sl, rfl, hsl⟩, k9⟩
  have l9 := k9.1
  have hg49 : H9.get b4 = some (Kc k d) := by rw [k9.2 b4 (by omega)]; exact hg48
  have hma := hm.2
  generalize shapesL xs d.toNat = L at *
  repeat' first
    | refine CO.cons rfl ?_
    | refine CO.nil ?_
    | refine CV.seq ?_
    | refine CV.region callees ?_
    | refine CV.cond ?_
    | refine CV.block ?_
    | refine CV.skip ?_
    | refine CV.exit ?_
    | refine CV.ret ?_
    | refine CV.scope ?_
    | refine CV.draw callees (by decide +kernel) ?_
    | refine CH.cons rfl ?_
    | refine CH.nil ?_
    | refine CO.consG rfl ?_
    | refine CH.consG rfl ?_
    | refine CG.cons rfl ?_
    | refine CR.cons ?_
    | refine CR.nil ?_
    | refine CG.nil ?_
    | refine CG.consG rfl ?_
    | refine ⟨(rfl : plain _ = true), ?_⟩
    | refine ⟨(rfl : nilOk _ = some _), ?_⟩
    | refine ⟨_, ints_len (by assumption), ?_⟩
    | refine ⟨_, ints_addr (by assumption) (by omega) (by omega), ?_⟩
    | refine ⟨_, ints_load (by assumption) (by omega) (by omega), ?_⟩
    | refine ⟨(⟨by omega, by omega⟩ : inI64 _), ?_⟩
    | refine ⟨_, fun tm ha => step1_max rfl (ev_tmp ha rfl) (ev_tmp ha rfl), ?_⟩
    | refine ⟨_, fun tm ha => step1_min rfl (ev_tmp ha rfl) (ev_tmp ha rfl), ?_⟩
    | (refine ⟨_, addrK1, ?_⟩)
    | (refine ⟨Value.int .i64 d, cell_load ag3 hg49 rfl, ?_⟩)
    | (refine ⟨fun _ => ?_, fun _ => ?_⟩ <;> first | (exfalso; omega) | skip)
    | fail
  refine (count_spec (by omega) (base_any _)).mono ?_
  rintro r Ha ⟨rfl, rfl⟩
  have hpc : pairV (cntR d) = .tuple #[.int .i64 (L.length : Int), .int .i64 0] := by
    rw [← hdn] at c0 hlen
    unfold pairV
    rw [c0, show (cntR d).1 = (L.length : Int) by rw [← hdn] at c1; omega]
  rw [hpc]
  have hlen2 : L.length = (cntR d).1.toNat := by rw [← hdn] at hlen; exact hlen
  have hsi : Ints Ha sl L := hsl.row
  have k79 := k8.trans k9
  have hba : Box b Ha := hb7.keep k79
  repeat' first
    | refine CO.cons rfl ?_
    | refine CO.nil ?_
    | refine CV.seq ?_
    | refine CV.region callees ?_
    | refine CV.cond ?_
    | refine CV.block ?_
    | refine CV.skip ?_
    | refine CV.exit ?_
    | refine CV.ret ?_
    | refine CV.scope ?_
    | refine CV.draw callees (by decide +kernel) ?_
    | refine CH.cons rfl ?_
    | refine CH.nil ?_
    | refine CO.consG rfl ?_
    | refine CH.consG rfl ?_
    | refine CG.cons rfl ?_
    | refine CR.cons ?_
    | refine CR.nil ?_
    | refine CG.nil ?_
    | refine CG.consG rfl ?_
    | refine ⟨(rfl : plain _ = true), ?_⟩
    | refine ⟨(rfl : nilOk _ = some _), ?_⟩
    | refine ⟨_, ints_len (by assumption), ?_⟩
    | refine ⟨_, ints_addr (by assumption) (by omega) (by omega), ?_⟩
    | refine ⟨_, ints_load (by assumption) (by omega) (by omega), ?_⟩
    | refine ⟨(⟨by omega, by omega⟩ : inI64 _), ?_⟩
    | refine ⟨_, fun tm ha => step1_max rfl (ev_tmp ha rfl) (ev_tmp ha rfl), ?_⟩
    | refine ⟨_, fun tm ha => step1_min rfl (ev_tmp ha rfl) (ev_tmp ha rfl), ?_⟩
    | (refine ⟨_, addrK1, ?_⟩)
    | (refine ⟨Value.int .i64 d, cell_load ag3 hg49 rfl, ?_⟩)
    | (refine ⟨fun _ => ?_, fun _ => ?_⟩ <;> first | (exfalso; omega) | skip)
    | fail
  refine (partitionOf_spec hb (by omega) hba (by omega) (by omega)).mono ?_
  rintro op Hb ⟨⟨os, hoc, hol, hop⟩, hbb, xb⟩
  have lb := xb.1
  have hsb := row_box hsl.row xb hba
  have hgpa : Ints Ha gp (unL d (L.idxOf m)) := Row.keep hgp k9
  have hgpb := row_box hgpa xb hba
  have hkkb : Ints Hb kk ks := row_box (Row.keep hkk7 k79) xb hba
  have hg4b : Hb.get b4 = some (Kc k d) := by rw [xb.2 b4 (by omega) (by omega)]; exact hg49
  have hg5b : Hb.get b5 = some (Sc a c w n l kk) := by rw [xb.2 b5 (by omega) (by omega), k9.2 b5 (by omega), k8.2 b5 (by omega)]; exact hg57
  have hm0 : 0 ≤ m := by rw [← hia]; exact (hLn _ hix).1
  have hm9 : m ≤ 3904305912313344 := by rw [← hia]; exact (hLn _ hix).2
  have hLm : ∀ j, j < L.length → 0 ≤ L[j]! ∧ L[j]! ≤ m := fun j hj => ⟨(hLn j hj).1, hma j hj⟩
  obtain ⟨v1, v2, v3, v4⟩ := hun (L.idxOf m) (by omega)
  have hgc := check_of_rank v4
  generalize hG : unL d (L.idxOf m) = gs at *
  repeat' first
    | refine CO.cons rfl ?_
    | refine CO.nil ?_
    | refine CV.seq ?_
    | refine CV.region callees ?_
    | refine CV.cond ?_
    | refine CV.block ?_
    | refine CV.skip ?_
    | refine CV.exit ?_
    | refine CV.ret ?_
    | refine CV.scope ?_
    | refine CV.draw callees (by decide +kernel) ?_
    | refine CH.cons rfl ?_
    | refine CH.nil ?_
    | refine CO.consG rfl ?_
    | refine CH.consG rfl ?_
    | refine CG.cons rfl ?_
    | refine CR.cons ?_
    | refine CR.nil ?_
    | refine CG.nil ?_
    | refine CG.consG rfl ?_
    | refine ⟨(rfl : plain _ = true), ?_⟩
    | refine ⟨(rfl : nilOk _ = some _), ?_⟩
    | refine ⟨_, ints_len (by assumption), ?_⟩
    | refine ⟨_, ints_addr (by assumption) (by omega) (by omega), ?_⟩
    | refine ⟨_, ints_load (by assumption) (by omega) (by omega), ?_⟩
    | refine ⟨(⟨by omega, by omega⟩ : inI64 _), ?_⟩
    | refine ⟨_, fun tm ha => step1_max rfl (ev_tmp ha rfl) (ev_tmp ha rfl), ?_⟩
    | refine ⟨_, fun tm ha => step1_min rfl (ev_tmp ha rfl) (ev_tmp ha rfl), ?_⟩
    | (refine ⟨fun _ => ?_, fun _ => ?_⟩ <;> first | (exfalso; omega) | skip)
    | fail
  refine CV.loopc ?_
  refine WCv.rounds callees false (α := Nat × Int × Int) (fun (i, x, y) => [(4, .pointer (some ⟨b4, 0, none⟩)), (5, .pointer (some ⟨b5, 0, none⟩)), (6, gp), (7, .int .i64 m), (9, sl), (11, .int .i64 (L.length : Int)), (13, op), (14, .int .i64 x), (15, .int .i64 y), (16, .int .i64 (i : Int))]) (fun (i, x, y) Hz => i ≤ L.length ∧ Met d gs L i x ∧ Met d os L i y ∧ Keep Hb Hz) (fun (i, x, y) => L.length - i) (0, 0, 0) (by repeat' first | exact trivial | refine ⟨rfl, ?_⟩ | refine ⟨slot_int (by (try simp only [Int.toNat_natCast]); omega), ?_⟩) ?_ ?_
  · exact ⟨by omega, .inl ⟨rfl, fun j hj => by omega⟩, .inl ⟨rfl, fun j hj => by omega⟩, Keep.refl _⟩
  rintro ⟨i, x, y⟩ Hx ⟨hi, hMx, hMy, kx⟩ hBx
  have lx := kx.1
  have hg4x : Hx.get b4 = some (Kc k d) := by rw [kx.2 b4 (by omega)]; exact hg4b
  have hg5x : Hx.get b5 = some (Sc a c w n l kk) := by rw [kx.2 b5 (by omega)]; exact hg5b
  have bx := hMx.bound hi hLm hm0
  have bY := hMy.bound hi hLm hm0
  by_cases hi2 : i < L.length
  · obtain ⟨u1, u2, u3, u4⟩ := hun i (by omega)
    have hLi : L[((i : Nat) : Int).toNat]! = L[i]! := rfl
    have hLb := hLm i hi2
    have hur : ∀ j : Nat, j ≤ i → rankR (unL d j) = ((j : Int), 0) := fun j hj => (hun j (by omega)).2.2.2
    have hx1 := hMx.hit hur
    have hy1 := hMy.hit hur
    have hx0 := hMx.miss
    have hy0 := hMy.miss
    have bx1 := fun e => (hx1 e).bound hi2 hLm hm0
    have by1 := fun e => (hy1 e).bound hi2 hLm hm0
    repeat' first
      | refine CO.cons rfl ?_
      | refine CO.nil ?_
      | refine CV.seq ?_
      | refine CV.region callees ?_
      | refine CV.cond ?_
      | refine CV.block ?_
      | refine CV.skip ?_
      | refine CV.exit ?_
      | refine CV.ret ?_
      | refine CV.scope ?_
      | refine CV.draw callees (by decide +kernel) ?_
      | refine CH.cons rfl ?_
      | refine CH.nil ?_
      | refine CO.consG rfl ?_
      | refine CH.consG rfl ?_
      | refine CG.cons rfl ?_
      | refine CR.cons ?_
      | refine CR.nil ?_
      | refine CG.nil ?_
      | refine CG.consG rfl ?_
      | refine ⟨(rfl : plain _ = true), ?_⟩
      | refine ⟨(rfl : nilOk _ = some _), ?_⟩
      | refine ⟨_, ints_len (by assumption), ?_⟩
      | refine ⟨_, ints_addr (by assumption) (by omega) (by omega), ?_⟩
      | refine ⟨_, ints_load (by assumption) (by omega) (by omega), ?_⟩
      | refine ⟨(⟨by omega, by omega⟩ : inI64 _), ?_⟩
      | refine ⟨_, fun tm ha => step1_max rfl (ev_tmp ha rfl) (ev_tmp ha rfl), ?_⟩
      | refine ⟨_, fun tm ha => step1_min rfl (ev_tmp ha rfl) (ev_tmp ha rfl), ?_⟩
      | (refine ⟨_, addrK1, ?_⟩)
      | (refine ⟨Value.int .i64 d, cell_load ag3 hg4x rfl, ?_⟩)
      | (refine ⟨fun _ => ?_, fun _ => ?_⟩ <;> first | (exfalso; omega) | skip)
      | fail
    refine (unrank_spec (by omega) (base_any _) ⟨by omega, by omega⟩).mono ?_
    rintro r Hc ⟨⟨u, rfl, hu⟩, kc⟩
    have lc := kc.1
    rw [u1]
    have kbc := kx.trans kc
    have hg5c : Hc.get b5 = some (Sc a c w n l kk) := by rw [kc.2 b5 (by omega)]; exact hg5x
    repeat' first
      | refine CO.cons rfl ?_
      | refine CO.nil ?_
      | refine CV.seq ?_
      | refine CV.region callees ?_
      | refine CV.cond ?_
      | refine CV.block ?_
      | refine CV.skip ?_
      | refine CV.exit ?_
      | refine CV.ret ?_
      | refine CV.scope ?_
      | refine CV.draw callees (by decide +kernel) ?_
      | refine CH.cons rfl ?_
      | refine CH.nil ?_
      | refine CO.consG rfl ?_
      | refine CH.consG rfl ?_
      | refine CG.cons rfl ?_
      | refine CR.cons ?_
      | refine CR.nil ?_
      | refine CG.nil ?_
      | refine CG.consG rfl ?_
      | refine ⟨(rfl : plain _ = true), ?_⟩
      | refine ⟨(rfl : nilOk _ = some _), ?_⟩
      | refine ⟨_, ints_len (by assumption), ?_⟩
      | refine ⟨_, ints_addr (by assumption) (by omega) (by omega), ?_⟩
      | refine ⟨_, ints_load (by assumption) (by omega) (by omega), ?_⟩
      | refine ⟨(⟨by omega, by omega⟩ : inI64 _), ?_⟩
      | refine ⟨_, fun tm ha => step1_max rfl (ev_tmp ha rfl) (ev_tmp ha rfl), ?_⟩
      | refine ⟨_, fun tm ha => step1_min rfl (ev_tmp ha rfl) (ev_tmp ha rfl), ?_⟩
      | (refine ⟨_, loadS hg5c, ?_⟩)
      | (refine ⟨fun _ => ?_, fun _ => ?_⟩ <;> first | (exfalso; omega) | skip)
      | fail
    refine (mark2_spec (by omega) (Row.keep hkkb kbc) hV hu (Row.keep hgpb kbc) (check_of_rank u4) hgc (by omega)).mono ?_
    rintro r Hd ⟨⟨p1, p2, p3, p4, p5, o1, p7, p8, rfl, ho1⟩, kd⟩
    have ld := kd.1
    have kbd := kbc.trans kd
    repeat' first
      | refine CO.cons rfl ?_
      | refine CO.nil ?_
      | refine CV.seq ?_
      | refine CV.region callees ?_
      | refine CV.cond ?_
      | refine CV.block ?_
      | refine CV.skip ?_
      | refine CV.exit ?_
      | refine CV.ret ?_
      | refine CV.scope ?_
      | refine CV.draw callees (by decide +kernel) ?_
      | refine CH.cons rfl ?_
      | refine CH.nil ?_
      | refine CO.consG rfl ?_
      | refine CH.consG rfl ?_
      | refine CG.cons rfl ?_
      | refine CR.cons ?_
      | refine CR.nil ?_
      | refine CG.nil ?_
      | refine CG.consG rfl ?_
      | refine ⟨(rfl : plain _ = true), ?_⟩
      | refine ⟨(rfl : nilOk _ = some _), ?_⟩
      | refine ⟨_, ints_len (by assumption), ?_⟩
      | refine ⟨_, ints_addr (by assumption) (by omega) (by omega), ?_⟩
      | refine ⟨_, ints_load (by assumption) (by omega) (by omega), ?_⟩
      | refine ⟨(⟨by omega, by omega⟩ : inI64 _), ?_⟩
      | refine ⟨_, fun tm ha => step1_max rfl (ev_tmp ha rfl) (ev_tmp ha rfl), ?_⟩
      | refine ⟨_, fun tm ha => step1_min rfl (ev_tmp ha rfl) (ev_tmp ha rfl), ?_⟩
      | (refine ⟨_, _, allocX, ?_⟩)
      | (refine ⟨fun _ => ?_, fun _ => ?_⟩ <;> first | (exfalso; omega) | skip)
      | fail
    generalize hse : Heap.new Hd _ = He
    have hge := new_get hse
    have ke := new_keep hse
    have ne := new_n hse
    obtain ⟨be, hbe⟩ : ∃ be, Hd.n = be := ⟨_, rfl⟩
    rw [hbe] at hge ne ⊢
    refine ⟨_, _, storeX hge, by omega, ?_⟩
    generalize hsf : Heap.set He be _ = Hf
    have hgf : Hf.get be = some (Xc p1 p2 p3 p4 p5 o1 p7 p8) := set_get hsf
    have nf := set_n hsf
    have of := set_old hsf
    have kdf : Keep Hd Hf := keep_put ke (by omega) of nf
    have kbf := kbd.trans kdf
    have hg5f : Hf.get b5 = some (Sc a c w n l kk) := by rw [kbf.2 b5 (by omega)]; exact hg5b
    have huf : Ints Hf u (unL d i) := Row.keep hu (kd.trans kdf)
    repeat' first
      | refine CO.cons rfl ?_
      | refine CO.nil ?_
      | refine CV.seq ?_
      | refine CV.region callees ?_
      | refine CV.cond ?_
      | refine CV.block ?_
      | refine CV.skip ?_
      | refine CV.exit ?_
      | refine CV.ret ?_
      | refine CV.scope ?_
      | refine CV.draw callees (by decide +kernel) ?_
      | refine CH.cons rfl ?_
      | refine CH.nil ?_
      | refine CO.consG rfl ?_
      | refine CH.consG rfl ?_
      | refine CG.cons rfl ?_
      | refine CR.cons ?_
      | refine CR.nil ?_
      | refine CG.nil ?_
      | refine CG.consG rfl ?_
      | refine ⟨(rfl : plain _ = true), ?_⟩
      | refine ⟨(rfl : nilOk _ = some _), ?_⟩
      | refine ⟨_, ints_len (by assumption), ?_⟩
      | refine ⟨_, ints_addr (by assumption) (by omega) (by omega), ?_⟩
      | refine ⟨_, ints_load (by assumption) (by omega) (by omega), ?_⟩
      | refine ⟨(⟨by omega, by omega⟩ : inI64 _), ?_⟩
      | refine ⟨_, fun tm ha => step1_max rfl (ev_tmp ha rfl) (ev_tmp ha rfl), ?_⟩
      | refine ⟨_, fun tm ha => step1_min rfl (ev_tmp ha rfl) (ev_tmp ha rfl), ?_⟩
      | (refine ⟨_, loadS hg5f, ?_⟩)
      | (refine ⟨fun _ => ?_, fun _ => ?_⟩ <;> first | (exfalso; omega) | skip)
      | fail
    refine (mark2_spec (by omega) (Row.keep hkkb kbf) hV huf (Row.keep hop.row kbf) (check_of_rank u4) hoc (by omega)).mono ?_
    rintro r Hg ⟨⟨q1, q2, q3, q4, q5, o2, q7, q8, rfl, ho2⟩, kg⟩
    have lg := kg.1
    have kbg := kbf.trans kg
    have hgg : Hg.get be = some (Xc p1 p2 p3 p4 p5 o1 p7 p8) := by rw [kg.2 be (by omega)]; exact hgf
    repeat' first
      | refine CO.cons rfl ?_
      | refine CO.nil ?_
      | refine CV.seq ?_
      | refine CV.region callees ?_
      | refine CV.cond ?_
      | refine CV.block ?_
      | refine CV.skip ?_
      | refine CV.exit ?_
      | refine CV.ret ?_
      | refine CV.scope ?_
      | refine CV.draw callees (by decide +kernel) ?_
      | refine CH.cons rfl ?_
      | refine CH.nil ?_
      | refine CO.consG rfl ?_
      | refine CH.consG rfl ?_
      | refine CG.cons rfl ?_
      | refine CR.cons ?_
      | refine CR.nil ?_
      | refine CG.nil ?_
      | refine CG.consG rfl ?_
      | refine ⟨(rfl : plain _ = true), ?_⟩
      | refine ⟨(rfl : nilOk _ = some _), ?_⟩
      | refine ⟨_, ints_len (by assumption), ?_⟩
      | refine ⟨_, ints_addr (by assumption) (by omega) (by omega), ?_⟩
      | refine ⟨_, ints_load (by assumption) (by omega) (by omega), ?_⟩
      | refine ⟨(⟨by omega, by omega⟩ : inI64 _), ?_⟩
      | refine ⟨_, fun tm ha => step1_max rfl (ev_tmp ha rfl) (ev_tmp ha rfl), ?_⟩
      | refine ⟨_, fun tm ha => step1_min rfl (ev_tmp ha rfl) (ev_tmp ha rfl), ?_⟩
      | (refine ⟨_, _, allocX, ?_⟩)
      | (refine ⟨fun _ => ?_, fun _ => ?_⟩ <;> first | (exfalso; omega) | skip)
      | fail
    generalize hsh : Heap.new Hg _ = Hh
    have hgh := new_get hsh
    have kh := new_keep hsh
    have nh := new_n hsh
    obtain ⟨bh, hbh⟩ : ∃ bh, Hg.n = bh := ⟨_, rfl⟩
    rw [hbh] at hgh nh ⊢
    refine ⟨_, _, storeX hgh, by omega, ?_⟩
    generalize hsi2 : Heap.set Hh bh _ = Hi
    have hgi : Hi.get bh = some (Xc q1 q2 q3 q4 q5 o2 q7 q8) := set_get hsi2
    have ni := set_n hsi2
    have oi := set_old hsi2
    have kgi : Keep Hg Hi := keep_put kh (by omega) oi ni
    have kbi := kbg.trans kgi
    have hgi1 : Hi.get be = some (Xc p1 p2 p3 p4 p5 o1 p7 p8) := by rw [kgi.2 be (by omega)]; exact hgg
    have hsli : Ints Hi sl L := Row.keep hsb kbi
    rcases ho1 with ⟨rfl, e1⟩ | ⟨rfl, e1⟩ <;> rcases ho2 with ⟨rfl, e2⟩ | ⟨rfl, e2⟩
    · have := bx1 e1
      have := by1 e2
      repeat' first
        | refine CO.cons rfl ?_
        | refine CO.nil ?_
        | refine CV.seq ?_
        | refine CV.region callees ?_
        | refine CV.cond ?_
        | refine CV.block ?_
        | refine CV.skip ?_
        | refine CV.exit ?_
        | refine CV.ret ?_
        | refine CV.scope ?_
        | refine CV.draw callees (by decide +kernel) ?_
        | refine CH.cons rfl ?_
        | refine CH.nil ?_
        | refine CO.consG rfl ?_
        | refine CH.consG rfl ?_
        | refine CG.cons rfl ?_
        | refine CR.cons ?_
        | refine CR.nil ?_
        | refine CG.nil ?_
        | refine CG.consG rfl ?_
        | refine ⟨(rfl : plain _ = true), ?_⟩
        | refine ⟨(rfl : nilOk _ = some _), ?_⟩
        | refine ⟨_, ints_len (by assumption), ?_⟩
        | refine ⟨_, ints_addr (by assumption) (by omega) (by omega), ?_⟩
        | refine ⟨_, ints_load (by assumption) (by omega) (by omega), ?_⟩
        | refine ⟨(⟨by omega, by omega⟩ : inI64 _), ?_⟩
        | refine ⟨_, fun tm ha => step1_max rfl (ev_tmp ha rfl) (ev_tmp ha rfl), ?_⟩
        | refine ⟨_, fun tm ha => step1_min rfl (ev_tmp ha rfl) (ev_tmp ha rfl), ?_⟩
        | (refine ⟨_, addrX (i := 5) (by decide), ?_⟩)
        | (refine ⟨_, cell_load ag3 hgi1 rfl, ?_⟩)
        | (refine ⟨_, cell_load ag3 hgi rfl, ?_⟩)
        | (refine ⟨fun _ => ?_, fun _ => ?_⟩ <;> first | (exfalso; omega) | skip)
        | fail
      refine ⟨(i + 1, x + L[i]!, y + L[i]!), (by repeat' first | exact trivial | refine ⟨rfl, ?_⟩ | refine ⟨slot_int (by (try simp only [Int.toNat_natCast]); omega), ?_⟩), (by (try dsimp only); omega), ?_⟩
      exact ⟨by omega, hx1 e1, hy1 e2, kbi⟩
    · have := bx1 e1
      repeat' first
        | refine CO.cons rfl ?_
        | refine CO.nil ?_
        | refine CV.seq ?_
        | refine CV.region callees ?_
        | refine CV.cond ?_
        | refine CV.block ?_
        | refine CV.skip ?_
        | refine CV.exit ?_
        | refine CV.ret ?_
        | refine CV.scope ?_
        | refine CV.draw callees (by decide +kernel) ?_
        | refine CH.cons rfl ?_
        | refine CH.nil ?_
        | refine CO.consG rfl ?_
        | refine CH.consG rfl ?_
        | refine CG.cons rfl ?_
        | refine CR.cons ?_
        | refine CR.nil ?_
        | refine CG.nil ?_
        | refine CG.consG rfl ?_
        | refine ⟨(rfl : plain _ = true), ?_⟩
        | refine ⟨(rfl : nilOk _ = some _), ?_⟩
        | refine ⟨_, ints_len (by assumption), ?_⟩
        | refine ⟨_, ints_addr (by assumption) (by omega) (by omega), ?_⟩
        | refine ⟨_, ints_load (by assumption) (by omega) (by omega), ?_⟩
        | refine ⟨(⟨by omega, by omega⟩ : inI64 _), ?_⟩
        | refine ⟨_, fun tm ha => step1_max rfl (ev_tmp ha rfl) (ev_tmp ha rfl), ?_⟩
        | refine ⟨_, fun tm ha => step1_min rfl (ev_tmp ha rfl) (ev_tmp ha rfl), ?_⟩
        | (refine ⟨_, addrX (i := 5) (by decide), ?_⟩)
        | (refine ⟨_, cell_load ag3 hgi1 rfl, ?_⟩)
        | (refine ⟨_, cell_load ag3 hgi rfl, ?_⟩)
        | (refine ⟨fun _ => ?_, fun _ => ?_⟩ <;> first | (exfalso; omega) | skip)
        | fail
      refine ⟨(i + 1, x + L[i]!, y), (by repeat' first | exact trivial | refine ⟨rfl, ?_⟩ | refine ⟨slot_int (by (try simp only [Int.toNat_natCast]); omega), ?_⟩), (by (try dsimp only); omega), ?_⟩
      exact ⟨by omega, hx1 e1, hy0 e2, kbi⟩
    · have := by1 e2
      repeat' first
        | refine CO.cons rfl ?_
        | refine CO.nil ?_
        | refine CV.seq ?_
        | refine CV.region callees ?_
        | refine CV.cond ?_
        | refine CV.block ?_
        | refine CV.skip ?_
        | refine CV.exit ?_
        | refine CV.ret ?_
        | refine CV.scope ?_
        | refine CV.draw callees (by decide +kernel) ?_
        | refine CH.cons rfl ?_
        | refine CH.nil ?_
        | refine CO.consG rfl ?_
        | refine CH.consG rfl ?_
        | refine CG.cons rfl ?_
        | refine CR.cons ?_
        | refine CR.nil ?_
        | refine CG.nil ?_
        | refine CG.consG rfl ?_
        | refine ⟨(rfl : plain _ = true), ?_⟩
        | refine ⟨(rfl : nilOk _ = some _), ?_⟩
        | refine ⟨_, ints_len (by assumption), ?_⟩
        | refine ⟨_, ints_addr (by assumption) (by omega) (by omega), ?_⟩
        | refine ⟨_, ints_load (by assumption) (by omega) (by omega), ?_⟩
        | refine ⟨(⟨by omega, by omega⟩ : inI64 _), ?_⟩
        | refine ⟨_, fun tm ha => step1_max rfl (ev_tmp ha rfl) (ev_tmp ha rfl), ?_⟩
        | refine ⟨_, fun tm ha => step1_min rfl (ev_tmp ha rfl) (ev_tmp ha rfl), ?_⟩
        | (refine ⟨_, addrX (i := 5) (by decide), ?_⟩)
        | (refine ⟨_, cell_load ag3 hgi1 rfl, ?_⟩)
        | (refine ⟨_, cell_load ag3 hgi rfl, ?_⟩)
        | (refine ⟨fun _ => ?_, fun _ => ?_⟩ <;> first | (exfalso; omega) | skip)
        | fail
      refine ⟨(i + 1, x, y + L[i]!), (by repeat' first | exact trivial | refine ⟨rfl, ?_⟩ | refine ⟨slot_int (by (try simp only [Int.toNat_natCast]); omega), ?_⟩), (by (try dsimp only); omega), ?_⟩
      exact ⟨by omega, hx0 e1, hy1 e2, kbi⟩
    · repeat' first
        | refine CO.cons rfl ?_
        | refine CO.nil ?_
        | refine CV.seq ?_
        | refine CV.region callees ?_
        | refine CV.cond ?_
        | refine CV.block ?_
        | refine CV.skip ?_
        | refine CV.exit ?_
        | refine CV.ret ?_
        | refine CV.scope ?_
        | refine CV.draw callees (by decide +kernel) ?_
        | refine CH.cons rfl ?_
        | refine CH.nil ?_
        | refine CO.consG rfl ?_
        | refine CH.consG rfl ?_
        | refine CG.cons rfl ?_
        | refine CR.cons ?_
        | refine CR.nil ?_
        | refine CG.nil ?_
        | refine CG.consG rfl ?_
        | refine ⟨(rfl : plain _ = true), ?_⟩
        | refine ⟨(rfl : nilOk _ = some _), ?_⟩
        | refine ⟨_, ints_len (by assumption), ?_⟩
        | refine ⟨_, ints_addr (by assumption) (by omega) (by omega), ?_⟩
        | refine ⟨_, ints_load (by assumption) (by omega) (by omega), ?_⟩
        | refine ⟨(⟨by omega, by omega⟩ : inI64 _), ?_⟩
        | refine ⟨_, fun tm ha => step1_max rfl (ev_tmp ha rfl) (ev_tmp ha rfl), ?_⟩
        | refine ⟨_, fun tm ha => step1_min rfl (ev_tmp ha rfl) (ev_tmp ha rfl), ?_⟩
        | (refine ⟨_, addrX (i := 5) (by decide), ?_⟩)
        | (refine ⟨_, cell_load ag3 hgi1 rfl, ?_⟩)
        | (refine ⟨_, cell_load ag3 hgi rfl, ?_⟩)
        | (refine ⟨fun _ => ?_, fun _ => ?_⟩ <;> first | (exfalso; omega) | skip)
        | fail
      refine ⟨(i + 1, x, y), (by repeat' first | exact trivial | refine ⟨rfl, ?_⟩ | refine ⟨slot_int (by (try simp only [Int.toNat_natCast]); omega), ?_⟩), (by (try dsimp only); omega), ?_⟩
      exact ⟨by omega, hx0 e1, hy0 e2, kbi⟩
  · have hil : i = L.length := by omega
    subst hil
    have hxm : x = m := by
      rcases hMx with ⟨_, h⟩ | ⟨j, hj, h1, h2⟩
      · exact absurd hG (h _ hix)
      · have h3 := (hun j (by omega)).2.2.2
        rw [h1, v4] at h3
        have h4 := (Prod.ext_iff.1 h3).1
        have h5 : j = L.idxOf m := by
          simp only at h4
          omega
        rw [h2, h5, hia]
    subst hxm
    repeat' first
      | refine CO.cons rfl ?_
      | refine CO.nil ?_
      | refine CV.seq ?_
      | refine CV.region callees ?_
      | refine CV.cond ?_
      | refine CV.block ?_
      | refine CV.skip ?_
      | refine CV.exit ?_
      | refine CV.ret ?_
      | refine CV.scope ?_
      | refine CV.draw callees (by decide +kernel) ?_
      | refine CH.cons rfl ?_
      | refine CH.nil ?_
      | refine CO.consG rfl ?_
      | refine CH.consG rfl ?_
      | refine CG.cons rfl ?_
      | refine CR.cons ?_
      | refine CR.nil ?_
      | refine CG.nil ?_
      | refine CG.consG rfl ?_
      | refine ⟨(rfl : plain _ = true), ?_⟩
      | refine ⟨(rfl : nilOk _ = some _), ?_⟩
      | refine ⟨_, ints_len (by assumption), ?_⟩
      | refine ⟨_, ints_addr (by assumption) (by omega) (by omega), ?_⟩
      | refine ⟨_, ints_load (by assumption) (by omega) (by omega), ?_⟩
      | refine ⟨(⟨by omega, by omega⟩ : inI64 _), ?_⟩
      | refine ⟨_, fun tm ha => step1_max rfl (ev_tmp ha rfl) (ev_tmp ha rfl), ?_⟩
      | refine ⟨_, fun tm ha => step1_min rfl (ev_tmp ha rfl) (ev_tmp ha rfl), ?_⟩
      | (refine ⟨fun _ => ?_, fun _ => ?_⟩ <;> first | (exfalso; omega) | skip)
      | fail
    refine @CallB.known Try.prog (Oracle.of Try.prog kn2) _ _ (.bool true) _ _ rfl trivial (by omega) ?_
    repeat' first
      | refine CO.cons rfl ?_
      | refine CO.nil ?_
      | refine CV.seq ?_
      | refine CV.region callees ?_
      | refine CV.cond ?_
      | refine CV.block ?_
      | refine CV.skip ?_
      | refine CV.exit ?_
      | refine CV.ret ?_
      | refine CV.scope ?_
      | refine CV.draw callees (by decide +kernel) ?_
      | refine CH.cons rfl ?_
      | refine CH.nil ?_
      | refine CO.consG rfl ?_
      | refine CH.consG rfl ?_
      | refine CG.cons rfl ?_
      | refine CR.cons ?_
      | refine CR.nil ?_
      | refine CG.nil ?_
      | refine CG.consG rfl ?_
      | refine ⟨(rfl : plain _ = true), ?_⟩
      | refine ⟨(rfl : nilOk _ = some _), ?_⟩
      | refine ⟨_, ints_len (by assumption), ?_⟩
      | refine ⟨_, ints_addr (by assumption) (by omega) (by omega), ?_⟩
      | refine ⟨_, ints_load (by assumption) (by omega) (by omega), ?_⟩
      | refine ⟨(⟨by omega, by omega⟩ : inI64 _), ?_⟩
      | refine ⟨_, fun tm ha => step1_max rfl (ev_tmp ha rfl) (ev_tmp ha rfl), ?_⟩
      | refine ⟨_, fun tm ha => step1_min rfl (ev_tmp ha rfl) (ev_tmp ha rfl), ?_⟩
      | (refine ⟨fun _ => ?_, fun _ => ?_⟩ <;> first | (exfalso; omega) | skip)
      | fail
    exact ⟨rfl, rfl⟩
end Go.Proofs.Ytlpkbcgdcimglaa.Sc
