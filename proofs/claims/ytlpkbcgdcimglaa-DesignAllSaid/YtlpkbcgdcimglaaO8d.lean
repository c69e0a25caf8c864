
/- All ways, one by one: the law's function. -/
import Derived.Test.YtlpkbcgdcimglaaO7d
import Derived.Test.YtlpkbcgdcimglaaO4d
import Derived.Test.YtlpkbcgdcimglaaO5d
import Derived.Test.YtlpkbcgdcimglaaO6d
set_option linter.unusedVariables false
set_option linter.unusedSimpArgs false
namespace Go.Proofs.Ytlpkbcgdcimglaa
open Go.AI
set_option linter.unusedVariables false
set_option linter.unusedSimpArgs false
theorem chk_all {d : Nat} (h0 : 1 ≤ d) (h5 : d ≤ 5) : chkD d = true := by
  match d, h0, h5 with
  | 1, _, _ => exact chk_1
  | 2, _, _ => exact chk_2
  | 3, _, _ => exact chk_3
  | 4, _, _ => exact chk_4
  | 5, _, _ => exact chk_5
theorem all_facts {xs : List Int} {d : Nat} (h0 : 1 ≤ d) (h5 : d ≤ 5) (hl : xs.length ≤ 4) (he : ∀ i, i < xs.length → 1 ≤ xs[i]! ∧ xs[i]! ≤ 4) (hs : (d : Int) ≤ sumL xs) :
    sumL (shapesL xs d) = drawnN (sumL xs) d ∧ (drawnN (sumL xs) d ≤ 3000 → (∀ r, r < (shapesL xs d).length → 0 ≤ (shapesL xs d)[r]! ∧ (shapesL xs d)[r]! ≤ 3000) ∧ addL (List.replicate (bsL d).length 0) (cw d [] xs) = shapesL xs d) := by
  have hc := List.all_eq_true.1 (chk_all h0 h5) xs.length (List.mem_range.2 (by omega))
  have h1 := List.all_eq_true.1 hc xs (lists4_mem xs he)
  have hp := (isortI_perm xs).symm
  have h2 := List.all_eq_true.1 hc (isortI xs) (lists4_perm hp he)
  have h3 := eqI_eq (List.all_eq_true.1 (List.all_eq_true.1 isort_twice xs.length (List.mem_range.2 (by omega))) xs (lists4_mem xs he))
  rw [Bool.and_eq_true] at h1 h2
  have h1 := h1.2
  have h2 := h2.1
  simp only [chkT, Bool.or_eq_true, Bool.and_eq_true, decide_eq_true_eq] at h1
  have heq : eqI (isortI (isortI xs)) (isortI xs) = true := List.all_eq_true.1 (List.all_eq_true.1 isort_twice xs.length (List.mem_range.2 (by omega))) xs (lists4_mem xs he)
  simp only [chkS, heq, Bool.not_true, Bool.false_or, Bool.or_eq_true, decide_eq_true_eq, ← sumL_perm hp] at h2
  constructor
  · rw [shapes_perm hp (by omega), shapesL_map]
    rcases h2 with h2 | h2
    · omega
    · exact h2
  · intro hd
    rw [shapesL_map]
    rcases h1 with h1 | h1 | ⟨h1, h4⟩
    · omega
    · omega
    · refine ⟨allNn_at h1, ?_⟩
      have h4 := eqI_eq h4
      rw [tab_eq] at h4
      rw [← h4]
      exact addL_congr fun r _ => by rw [Int.one_mul]
theorem sumL_app : ∀ (l m : List Int), sumL (l ++ m) = sumL l + sumL m
  | [], m => by simp [sumL]
  | x :: l, m => by rw [List.cons_append, sumL, sumL, sumL_app l m]; omega
theorem nn_sub {l : List Int} (h : ∀ i, i < l.length → 0 ≤ l[i]!) (k : Nat) : 0 ≤ sumL (l.take k) ∧ sumL (l.take k) ≤ sumL l := by
  have h1 : 0 ≤ sumL (l.take k) := sumL_nn _ fun i hi => by
    have hi2 : i < l.length := by rw [List.length_take] at hi; omega
    rw [getElem!_pos _ i hi, List.getElem_take, ← getElem!_pos l i hi2]; exact h i hi2
  have h2 : 0 ≤ sumL (l.drop k) := sumL_nn _ fun i hi => by
    have hi2 : k + i < l.length := by rw [List.length_drop] at hi; omega
    rw [getElem!_pos _ i hi, List.getElem_drop, ← getElem!_pos l (k + i) hi2]; exact h _ hi2
  have h3 := sumL_app (l.take k) (l.drop k)
  rw [List.take_append_drop] at h3
  omega
theorem check_of_rank {xs : List Int} {r : Int} (h : rankR xs = (r, 0)) : check xs = 0 := by
  unfold rankR at h
  split at h
  · assumption
  · exact (Prod.ext_iff.1 h).2
theorem shapes_at {xs : List Int} {n r : Nat} (hr : r < (bsL n).length) : (shapesL xs n)[r]! = waysN (blocksN (unL n r)) 9 (pad xs) := by
  have h : (bsL n)[r]'hr = blocksN (unL n r) := by simp only [bsL, List.getElem_map, List.getElem_range]
  rw [shapesL_map, getElem!_pos _ r (by simpa using hr), List.getElem_map, h]
set_option maxRecDepth 100000 in
set_option maxHeartbeats 4000000 in
theorem all_spec {v : Value} {H : Heap} {nums : List Int} (hBase : Base H) (hv : Ints H v nums) (hx : nums.length ≤ 9223372036854775807) (_ : ∀ x ∈ nums, inI64 x) :
    CallB Try.prog H.n 9 [v] H (fun r _ => r = .bool true) := by
  have hn : H.n ≤ H.n := Nat.le_refl _
  refine CV.enter callees false rfl Try.func9 rfl (by kernel_rfl) (Nat.le_of_ble_eq_true rfl) hn ?_
  repeat' first
    | refine CO.cons rfl ?_
    | refine CO.nil ?_
    | refine CV.seq ?_
    | refine CV.region callees ?_
    | refine CV.cond ?_
    | refine CV.block ?_
    | refine CV.skip ?_
    | refine CV.exit ?_
    | refine CV.ret ?_
    | refine CV.scope ?_
    | refine CV.draw callees (by decide +kernel) ?_
    | refine CH.cons rfl ?_
    | refine CH.nil ?_
    | refine CO.consG rfl ?_
    | refine CH.consG rfl ?_
    | refine CG.cons rfl ?_
    | refine CR.cons ?_
    | refine CR.nil ?_
    | refine CG.nil ?_
    | refine CG.consG rfl ?_
    | refine ⟨(rfl : plain _ = true), ?_⟩
    | refine ⟨(rfl : nilOk _ = some _), ?_⟩
    | refine ⟨_, ints_len (by assumption), ?_⟩
    | refine ⟨_, ints_addr (by assumption) (by omega) (by omega), ?_⟩
    | refine ⟨_, ints_load (by assumption) (by omega) (by omega), ?_⟩
    | refine ⟨(⟨by omega, by omega⟩ : inI64 _), ?_⟩
    | refine ⟨_, fun tm ha => step1_max rfl (ev_tmp ha rfl) (ev_tmp ha rfl), ?_⟩
    | refine ⟨_, fun tm ha => step1_min rfl (ev_tmp ha rfl) (ev_tmp ha rfl), ?_⟩
    | (refine ⟨fun _ => ?_, fun _ => ?_⟩ <;> first | (exfalso; omega) | skip)
    | fail
  refine (boxOf_spec hn hv hx).mono ?_
  rintro r H1 ⟨⟨b, rfl, hb, hbox⟩, k1⟩
  have l1 := k1.1
  have hbn := hbox.1
  repeat' first
    | refine CO.cons rfl ?_
    | refine CO.nil ?_
    | refine CV.seq ?_
    | refine CV.region callees ?_
    | refine CV.cond ?_
    | refine CV.block ?_
    | refine CV.skip ?_
    | refine CV.exit ?_
    | refine CV.ret ?_
    | refine CV.scope ?_
    | refine CV.draw callees (by decide +kernel) ?_
    | refine CH.cons rfl ?_
    | refine CH.nil ?_
    | refine CO.consG rfl ?_
    | refine CH.consG rfl ?_
    | refine CG.cons rfl ?_
    | refine CR.cons ?_
    | refine CR.nil ?_
    | refine CG.nil ?_
    | refine CG.consG rfl ?_
    | refine ⟨(rfl : plain _ = true), ?_⟩
    | refine ⟨(rfl : nilOk _ = some _), ?_⟩
    | refine ⟨_, ints_len (by assumption), ?_⟩
    | refine ⟨_, ints_addr (by assumption) (by omega) (by omega), ?_⟩
    | refine ⟨_, ints_load (by assumption) (by omega) (by omega), ?_⟩
    | refine ⟨(⟨by omega, by omega⟩ : inI64 _), ?_⟩
    | refine ⟨_, fun tm ha => step1_max rfl (ev_tmp ha rfl) (ev_tmp ha rfl), ?_⟩
    | refine ⟨_, fun tm ha => step1_min rfl (ev_tmp ha rfl) (ev_tmp ha rfl), ?_⟩
    | (refine ⟨fun _ => ?_, fun _ => ?_⟩ <;> first | (exfalso; omega) | skip)
    | fail
  refine (stockOfG_spec (kn := 4) (ct := 4) (dr := 5) (by omega) (by omega) (by omega) hb l1 hbox).mono ?_
  rintro r H2 ⟨⟨k, xs, d, rfl, hk2, hS, hd5, hx4, he4⟩, hb2, x2⟩
  have l2 := x2.1
  repeat' first
    | refine CO.cons rfl ?_
    | refine CO.nil ?_
    | refine CV.seq ?_
    | refine CV.region callees ?_
    | refine CV.cond ?_
    | refine CV.block ?_
    | refine CV.skip ?_
    | refine CV.exit ?_
    | refine CV.ret ?_
    | refine CV.scope ?_
    | refine CV.draw callees (by decide +kernel) ?_
    | refine CH.cons rfl ?_
    | refine CH.nil ?_
    | refine CO.consG rfl ?_
    | refine CH.consG rfl ?_
    | refine CG.cons rfl ?_
    | refine CR.cons ?_
    | refine CR.nil ?_
    | refine CG.nil ?_
    | refine CG.consG rfl ?_
    | refine ⟨(rfl : plain _ = true), ?_⟩
    | refine ⟨(rfl : nilOk _ = some _), ?_⟩
    | refine ⟨_, ints_len (by assumption), ?_⟩
    | refine ⟨_, ints_addr (by assumption) (by omega) (by omega), ?_⟩
    | refine ⟨_, ints_load (by assumption) (by omega) (by omega), ?_⟩
    | refine ⟨(⟨by omega, by omega⟩ : inI64 _), ?_⟩
    | refine ⟨_, fun tm ha => step1_max rfl (ev_tmp ha rfl) (ev_tmp ha rfl), ?_⟩
    | refine ⟨_, fun tm ha => step1_min rfl (ev_tmp ha rfl) (ev_tmp ha rfl), ?_⟩
    | (refine ⟨_, _, allocK, ?_⟩)
    | (refine ⟨fun _ => ?_, fun _ => ?_⟩ <;> first | (exfalso; omega) | skip)
    | fail
  generalize hs3 : H2.new (Kc (.slice none 0 0) 0) = H3
  have hg3 := new_get hs3
  have k3 := new_keep hs3
  have n3 := new_n hs3
  obtain ⟨b4, hb4⟩ : ∃ b4, H2.n = b4 := ⟨_, rfl⟩
  rw [hb4] at hg3 n3 ⊢
  refine ⟨_, _, storeK hk2.row.oneC.1 hg3, by omega, ?_⟩
  generalize hs4 : Heap.set H3 b4 _ = H4
  have hg4 : H4.get b4 = some (Kc k d) := set_get hs4
  have n4 := set_n hs4
  have k24 : Keep H2 H4 := keep_put k3 (by omega) (set_old hs4) n4
  have ho4 := hk2.keep k24
  have hk4 : Ints H4 k xs := ho4.row
  obtain ⟨s1, s2, s3, s4, s5, s6⟩ := id hS
  have hdn : d = ((d.toNat : Nat) : Int) := by omega
  obtain ⟨c0, c1, c2⟩ := cnt_small (n := d.toNat) (by omega) (by omega)
  have hlen := shapes_len (xs := xs) (n := d.toNat)
  obtain ⟨f1, f2⟩ := all_facts (xs := xs) (d := d.toNat) (by omega) (by omega) (by omega) (fun i hi => ⟨(s3 i hi).1, he4 i hi⟩) (by omega)
  obtain ⟨g1, g2⟩ := drawn_bound hS.sum d.toNat (by omega)
  have g3 := pow54 d.toNat (by omega)
  have g4 : (54 : Int) ^ 9 = 3904305912313344 := by decide
  have hbl := bsL_len (n := d.toNat)
  have hLn : ∀ i, i < (shapesL xs d.toNat).length → 0 ≤ (shapesL xs d.toNat)[i]! := fun i hi => by
    rw [shapes_at (by omega)]
    obtain ⟨u1, u2, u3, u4⟩ := un_facts (n := d.toNat) (r := i) (by omega) (by omega) (by omega)
    exact (ways_bound (blocks_len _) (blocks_all (by omega)) 9 _ (by omega) (pad_len s2) (pad_all s2 s3)).1
  have hLs := fun (i : Nat) => nn_sub hLn i
  have hat := fun (i : Nat) (hi : i < (bsL d.toNat).length) => shapes_at (xs := xs) hi
  have hun := fun (i : Nat) => un_facts (n := d.toNat) (r := i) (by omega) (by omega)
  rw [← hdn] at hun
  repeat' first
    | refine CO.cons rfl ?_
    | refine CO.nil ?_
    | refine CV.seq ?_
    | refine CV.region callees ?_
    | refine CV.cond ?_
    | refine CV.block ?_
    | refine CV.skip ?_
    | refine CV.exit ?_
    | refine CV.ret ?_
    | refine CV.scope ?_
    | refine CV.draw callees (by decide +kernel) ?_
    | refine CH.cons rfl ?_
    | refine CH.nil ?_
    | refine CO.consG rfl ?_
    | refine CH.consG rfl ?_
    | refine CG.cons rfl ?_
    | refine CR.cons ?_
    | refine CR.nil ?_
    | refine CG.nil ?_
    | refine CG.consG rfl ?_
    | refine ⟨(rfl : plain _ = true), ?_⟩
    | refine ⟨(rfl : nilOk _ = some _), ?_⟩
    | refine ⟨_, ints_len (by assumption), ?_⟩
    | refine ⟨_, ints_addr (by assumption) (by omega) (by omega), ?_⟩
    | refine ⟨_, ints_load (by assumption) (by omega) (by omega), ?_⟩
    | refine ⟨(⟨by omega, by omega⟩ : inI64 _), ?_⟩
    | refine ⟨_, fun tm ha => step1_max rfl (ev_tmp ha rfl) (ev_tmp ha rfl), ?_⟩
    | refine ⟨_, fun tm ha => step1_min rfl (ev_tmp ha rfl) (ev_tmp ha rfl), ?_⟩
    | (refine ⟨_, loadK hg4, ?_⟩)
    | (refine ⟨fun _ => ?_, fun _ => ?_⟩ <;> first | (exfalso; omega) | skip)
    | fail
  refine (Ways_spec (by omega) hk4 hS).mono ?_
  rintro r H5 ⟨rfl, k5⟩
  have l5 := k5.1
  have hg5 : H5.get b4 = some (Kc k d) := by rw [k5.2 b4 (by omega)]; exact hg4
  have ho5 := ho4.keep k5
  have hk5 : Ints H5 k xs := ho5.row
  generalize hLL : shapesL xs d.toNat = L at *
  generalize drawnN (sumL xs) d.toNat = T at *
  repeat' first
    | refine CO.cons rfl ?_
    | refine CO.nil ?_
    | refine CV.seq ?_
    | refine CV.region callees ?_
    | refine CV.cond ?_
    | refine CV.block ?_
    | refine CV.skip ?_
    | refine CV.exit ?_
    | refine CV.ret ?_
    | refine CV.scope ?_
    | refine CV.draw callees (by decide +kernel) ?_
    | refine CH.cons rfl ?_
    | refine CH.nil ?_
    | refine CO.consG rfl ?_
    | refine CH.consG rfl ?_
    | refine CG.cons rfl ?_
    | refine CR.cons ?_
    | refine CR.nil ?_
    | refine CG.nil ?_
    | refine CG.consG rfl ?_
    | refine ⟨(rfl : plain _ = true), ?_⟩
    | refine ⟨(rfl : nilOk _ = some _), ?_⟩
    | refine ⟨_, ints_len (by assumption), ?_⟩
    | refine ⟨_, ints_addr (by assumption) (by omega) (by omega), ?_⟩
    | refine ⟨_, ints_load (by assumption) (by omega) (by omega), ?_⟩
    | refine ⟨(⟨by omega, by omega⟩ : inI64 _), ?_⟩
    | refine ⟨_, fun tm ha => step1_max rfl (ev_tmp ha rfl) (ev_tmp ha rfl), ?_⟩
    | refine ⟨_, fun tm ha => step1_min rfl (ev_tmp ha rfl) (ev_tmp ha rfl), ?_⟩
    | (refine ⟨_, loadK hg5, ?_⟩)
    | (refine ⟨fun _ => ?_, fun _ => ?_⟩ <;> first | (exfalso; omega) | skip)
    | fail
  refine (Shapes_spec (by omega) hk5 hS (by omega)).mono ?_
  rw [hLL]
  rintro r H6 ⟨⟨l, rfl, hl⟩, k6⟩
  have l6 := k6.1
  have hg6 : H6.get b4 = some (Kc k d) := by rw [k6.2 b4 (by omega)]; exact hg5
  have ho6 := ho5.keep k6
  repeat' first
    | refine CO.cons rfl ?_
    | refine CO.nil ?_
    | refine CV.seq ?_
    | refine CV.region callees ?_
    | refine CV.cond ?_
    | refine CV.block ?_
    | refine CV.skip ?_
    | refine CV.exit ?_
    | refine CV.ret ?_
    | refine CV.scope ?_
    | refine CV.draw callees (by decide +kernel) ?_
    | refine CH.cons rfl ?_
    | refine CH.nil ?_
    | refine CO.consG rfl ?_
    | refine CH.consG rfl ?_
    | refine CG.cons rfl ?_
    | refine CR.cons ?_
    | refine CR.nil ?_
    | refine CG.nil ?_
    | refine CG.consG rfl ?_
    | refine ⟨(rfl : plain _ = true), ?_⟩
    | refine ⟨(rfl : nilOk _ = some _), ?_⟩
    | refine ⟨_, ints_len (by assumption), ?_⟩
    | refine ⟨_, ints_addr (by assumption) (by omega) (by omega), ?_⟩
    | refine ⟨_, ints_load (by assumption) (by omega) (by omega), ?_⟩
    | refine ⟨(⟨by omega, by omega⟩ : inI64 _), ?_⟩
    | refine ⟨_, fun tm ha => step1_max rfl (ev_tmp ha rfl) (ev_tmp ha rfl), ?_⟩
    | refine ⟨_, fun tm ha => step1_min rfl (ev_tmp ha rfl) (ev_tmp ha rfl), ?_⟩
    | (refine ⟨_, addrK1, ?_⟩)
    | (refine ⟨Value.int .i64 d, cell_load ag3 hg6 rfl, ?_⟩)
    | (refine ⟨fun _ => ?_, fun _ => ?_⟩ <;> first | (exfalso; omega) | skip)
    | fail
  refine (count_spec (by omega) (base_any _)).mono ?_
  rintro r H7 ⟨rfl, rfl⟩
  have hpc : pairV (cntR d) = .tuple #[.int .i64 (L.length : Int), .int .i64 0] := by
    rw [← hdn] at c0 hlen
    unfold pairV
    rw [c0, show (cntR d).1 = (L.length : Int) by rw [← hdn] at c1; omega]
  rw [hpc]
  have hlen2 : L.length = (cntR d).1.toNat := by rw [← hdn] at hlen; exact hlen
  have hli : Ints H7 l L := hl.row
  have hot : ([] : List Int).length = 0 := rfl
  repeat' first
    | refine CO.cons rfl ?_
    | refine CO.nil ?_
    | refine CV.seq ?_
    | refine CV.region callees ?_
    | refine CV.cond ?_
    | refine CV.block ?_
    | refine CV.skip ?_
    | refine CV.exit ?_
    | refine CV.ret ?_
    | refine CV.scope ?_
    | refine CV.draw callees (by decide +kernel) ?_
    | refine CH.cons rfl ?_
    | refine CH.nil ?_
    | refine CO.consG rfl ?_
    | refine CH.consG rfl ?_
    | refine CG.cons rfl ?_
    | refine CR.cons ?_
    | refine CR.nil ?_
    | refine CG.nil ?_
    | refine CG.consG rfl ?_
    | refine ⟨(rfl : plain _ = true), ?_⟩
    | refine ⟨(rfl : nilOk _ = some _), ?_⟩
    | refine ⟨_, ints_len (by assumption), ?_⟩
    | refine ⟨_, ints_addr (by assumption) (by omega) (by omega), ?_⟩
    | refine ⟨_, ints_load (by assumption) (by omega) (by omega), ?_⟩
    | refine ⟨(⟨by omega, by omega⟩ : inI64 _), ?_⟩
    | refine ⟨_, fun tm ha => step1_max rfl (ev_tmp ha rfl) (ev_tmp ha rfl), ?_⟩
    | refine ⟨_, fun tm ha => step1_min rfl (ev_tmp ha rfl) (ev_tmp ha rfl), ?_⟩
    | (refine ⟨fun _ => ?_, fun _ => ?_⟩ <;> first | (exfalso; omega) | skip)
    | fail
  refine CV.loopc ?_
  refine WCv.rounds callees false (α := Nat) (fun i => [(3, .pointer (some ⟨b4, 0, none⟩)), (4, .int .i64 T), (6, l), (10, .int .i64 (sumL (L.take i))), (11, .int .i64 (i : Int))]) (fun i Hz => i ≤ L.length ∧ Keep H7 Hz) (fun i => L.length - i) (0) (by repeat' first | exact trivial | refine ⟨rfl, ?_⟩ | refine ⟨slot_int (by (try simp only [Int.toNat_natCast]); omega), ?_⟩) ?_ ?_
  · exact ⟨by omega, Keep.refl _⟩
  rintro i Hx ⟨hi, kx⟩ hBx
  have lx := kx.1
  have hgx : Hx.get b4 = some (Kc k d) := by rw [kx.2 b4 (by omega)]; exact hg6
  have hox := ho6.keep kx
  have hkx : Ints Hx k xs := hox.row
  have hlo := hl.keep kx
  have hlx : Ints Hx l L := hlo.row
  by_cases hi2 : i < L.length
  · obtain ⟨u1, u2, u3, u4⟩ := hun i (by omega)
    have hLi : L[((i : Nat) : Int).toNat]! = L[i]! := rfl
    have hw := hat i (by omega)
    rw [← hdn] at hw
    have ht := take_one hi2
    have hts := sumL_snoc (L.take i) L[i]!
    rw [← ht] at hts
    have hs1 := hLs i
    have hs2 := hLs (i + 1)
    repeat' first
      | refine CO.cons rfl ?_
      | refine CO.nil ?_
      | refine CV.seq ?_
      | refine CV.region callees ?_
      | refine CV.cond ?_
      | refine CV.block ?_
      | refine CV.skip ?_
      | refine CV.exit ?_
      | refine CV.ret ?_
      | refine CV.scope ?_
      | refine CV.draw callees (by decide +kernel) ?_
      | refine CH.cons rfl ?_
      | refine CH.nil ?_
      | refine CO.consG rfl ?_
      | refine CH.consG rfl ?_
      | refine CG.cons rfl ?_
      | refine CR.cons ?_
      | refine CR.nil ?_
      | refine CG.nil ?_
      | refine CG.consG rfl ?_
      | refine ⟨(rfl : plain _ = true), ?_⟩
      | refine ⟨(rfl : nilOk _ = some _), ?_⟩
      | refine ⟨_, ints_len (by assumption), ?_⟩
      | refine ⟨_, ints_addr (by assumption) (by omega) (by omega), ?_⟩
      | refine ⟨_, ints_load (by assumption) (by omega) (by omega), ?_⟩
      | refine ⟨(⟨by omega, by omega⟩ : inI64 _), ?_⟩
      | refine ⟨_, fun tm ha => step1_max rfl (ev_tmp ha rfl) (ev_tmp ha rfl), ?_⟩
      | refine ⟨_, fun tm ha => step1_min rfl (ev_tmp ha rfl) (ev_tmp ha rfl), ?_⟩
      | (refine ⟨_, addrK1, ?_⟩)
      | (refine ⟨Value.int .i64 d, cell_load ag3 hgx rfl, ?_⟩)
      | (refine ⟨fun _ => ?_, fun _ => ?_⟩ <;> first | (exfalso; omega) | skip)
      | fail
    refine (unrank_spec (by omega) (base_any _) ⟨by omega, by omega⟩).mono ?_
    rintro r H8 ⟨⟨u, rfl, hu⟩, k8⟩
    have l8 := k8.1
    rw [u1]
    have hg8 : H8.get b4 = some (Kc k d) := by rw [k8.2 b4 (by omega)]; exact hgx
    have hk8 : Ints H8 k xs := Row.keep hkx k8
    repeat' first
      | refine CO.cons rfl ?_
      | refine CO.nil ?_
      | refine CV.seq ?_
      | refine CV.region callees ?_
      | refine CV.cond ?_
      | refine CV.block ?_
      | refine CV.skip ?_
      | refine CV.exit ?_
      | refine CV.ret ?_
      | refine CV.scope ?_
      | refine CV.draw callees (by decide +kernel) ?_
      | refine CH.cons rfl ?_
      | refine CH.nil ?_
      | refine CO.consG rfl ?_
      | refine CH.consG rfl ?_
      | refine CG.cons rfl ?_
      | refine CR.cons ?_
      | refine CR.nil ?_
      | refine CG.nil ?_
      | refine CG.consG rfl ?_
      | refine ⟨(rfl : plain _ = true), ?_⟩
      | refine ⟨(rfl : nilOk _ = some _), ?_⟩
      | refine ⟨_, ints_len (by assumption), ?_⟩
      | refine ⟨_, ints_addr (by assumption) (by omega) (by omega), ?_⟩
      | refine ⟨_, ints_load (by assumption) (by omega) (by omega), ?_⟩
      | refine ⟨(⟨by omega, by omega⟩ : inI64 _), ?_⟩
      | refine ⟨_, fun tm ha => step1_max rfl (ev_tmp ha rfl) (ev_tmp ha rfl), ?_⟩
      | refine ⟨_, fun tm ha => step1_min rfl (ev_tmp ha rfl) (ev_tmp ha rfl), ?_⟩
      | (refine ⟨_, loadK hg8, ?_⟩)
      | (refine ⟨fun _ => ?_, fun _ => ?_⟩ <;> first | (exfalso; omega) | skip)
      | fail
    refine (Chance_spec (by omega) hk8 hu hS (by omega) (check_of_rank u4) u3).mono ?_
    rintro r H9 ⟨rfl, k9⟩
    have l9 := k9.1
    rw [← hw]
    have kx9 : Keep H7 H9 := (kx.trans k8).trans k9
    have hl9 : Ints H9 l L := (hl.keep kx9).row
    repeat' first
      | refine CO.cons rfl ?_
      | refine CO.nil ?_
      | refine CV.seq ?_
      | refine CV.region callees ?_
      | refine CV.cond ?_
      | refine CV.block ?_
      | refine CV.skip ?_
      | refine CV.exit ?_
      | refine CV.ret ?_
      | refine CV.scope ?_
      | refine CV.draw callees (by decide +kernel) ?_
      | refine CH.cons rfl ?_
      | refine CH.nil ?_
      | refine CO.consG rfl ?_
      | refine CH.consG rfl ?_
      | refine CG.cons rfl ?_
      | refine CR.cons ?_
      | refine CR.nil ?_
      | refine CG.nil ?_
      | refine CG.consG rfl ?_
      | refine ⟨(rfl : plain _ = true), ?_⟩
      | refine ⟨(rfl : nilOk _ = some _), ?_⟩
      | refine ⟨_, ints_len (by assumption), ?_⟩
      | refine ⟨_, ints_addr (by assumption) (by omega) (by omega), ?_⟩
      | refine ⟨_, ints_load (by assumption) (by omega) (by omega), ?_⟩
      | refine ⟨(⟨by omega, by omega⟩ : inI64 _), ?_⟩
      | refine ⟨_, fun tm ha => step1_max rfl (ev_tmp ha rfl) (ev_tmp ha rfl), ?_⟩
      | refine ⟨_, fun tm ha => step1_min rfl (ev_tmp ha rfl) (ev_tmp ha rfl), ?_⟩
      | (refine ⟨fun _ => ?_, fun _ => ?_⟩ <;> first | (exfalso; omega) | skip)
      | fail
    refine ⟨(i + 1), (by repeat' first | exact trivial | refine ⟨rfl, ?_⟩ | refine ⟨slot_int (by (try simp only [Int.toNat_natCast]); omega), ?_⟩), (by (try dsimp only); omega), ?_⟩
    exact ⟨by omega, kx9⟩
  · have hil : i = L.length := by omega
    rw [show L.take i = L by rw [hil, List.take_length], f1]
    by_cases hT : T ≤ 3000
    · obtain ⟨f3, f4⟩ := f2 hT
      repeat' first
        | refine CO.cons rfl ?_
        | refine CO.nil ?_
        | refine CV.seq ?_
        | refine CV.region callees ?_
        | refine CV.cond ?_
        | refine CV.block ?_
        | refine CV.skip ?_
        | refine CV.exit ?_
        | refine CV.ret ?_
        | refine CV.scope ?_
        | refine CV.draw callees (by decide +kernel) ?_
        | refine CH.cons rfl ?_
        | refine CH.nil ?_
        | refine CO.consG rfl ?_
        | refine CH.consG rfl ?_
        | refine CG.cons rfl ?_
        | refine CR.cons ?_
        | refine CR.nil ?_
        | refine CG.nil ?_
        | refine CG.consG rfl ?_
        | refine ⟨(rfl : plain _ = true), ?_⟩
        | refine ⟨(rfl : nilOk _ = some _), ?_⟩
        | refine ⟨_, ints_len (by assumption), ?_⟩
        | refine ⟨_, ints_addr (by assumption) (by omega) (by omega), ?_⟩
        | refine ⟨_, ints_load (by assumption) (by omega) (by omega), ?_⟩
        | refine ⟨(⟨by omega, by omega⟩ : inI64 _), ?_⟩
        | refine ⟨_, fun tm ha => step1_max rfl (ev_tmp ha rfl) (ev_tmp ha rfl), ?_⟩
        | refine ⟨_, fun tm ha => step1_min rfl (ev_tmp ha rfl) (ev_tmp ha rfl), ?_⟩
        | (refine ⟨fun _ => ?_, fun _ => ?_⟩ <;> first | (exfalso; omega) | skip)
        | fail
      refine ⟨_, _, make_row un22 one3 (by omega) L.length (by omega), ?_⟩
      generalize hsa : Heap.new Hx _ = Ha
      have hga := new_get hsa
      have ka := new_keep hsa
      have na := new_n hsa
      obtain ⟨ba, hba⟩ : ∃ ba, Hx.n = ba := ⟨_, rfl⟩
      rw [hba] at hga na ⊢
      have hoa : Own 3 Ha (.slice (some ⟨ba, 0, none⟩) L.length 0) ((List.replicate L.length (0 : Int)).map VI) ba := by
        rw [List.map_replicate]
        exact .inr ⟨ba, by simp, Nat.le_refl _, by omega, hga⟩
      have hgk : Ha.get b4 = some (Kc k d) := by rw [ka.2 b4 (by omega)]; exact hgx
      have hla : Ints Ha l L := (hlo.keep ka).row
      have hka := hox.keep ka
      have lo1 := fun x (hx : blkOf k = some x) => (hox.lt hx).2
      have lo2 := fun x (hx : blkOf l = some x) => (hlo.lt hx).2
      have apk : Apart k (.slice (some ⟨ba, 0, none⟩) L.length 0) := fun x hx hx2 => by
        have := lo1 x hx
        have := (hoa.lt hx2).1
        omega
      have apl : Apart l (.slice (some ⟨ba, 0, none⟩) L.length 0) := fun x hx hx2 => by
        have := lo2 x hx
        have := (hoa.lt hx2).1
        omega
      generalize Value.slice (some ⟨ba, 0, none⟩) L.length 0 = ov at hoa apk apl ⊢
      have hrep : (List.replicate L.length (0 : Int)).length = L.length := List.length_replicate ..
      have hr0 : ∀ r, r < L.length → (List.replicate L.length (0 : Int))[r]! = 0 := fun r hr => by
        rw [getElem!_pos _ r (by omega), List.getElem_replicate]
      have hbsl : (bsL d.toNat).length = L.length := by omega
      rw [hbsl] at f4
      have hcw : ∀ r, r < L.length → cw d.toNat [] xs r = L[r]! := fun r hr => by
        have := congrArg (fun (m : List Int) => m[r]!) f4
        rw [addL_get (by omega), hr0 r hr] at this
        omega
      repeat' first
        | refine CO.cons rfl ?_
        | refine CO.nil ?_
        | refine CV.seq ?_
        | refine CV.region callees ?_
        | refine CV.cond ?_
        | refine CV.block ?_
        | refine CV.skip ?_
        | refine CV.exit ?_
        | refine CV.ret ?_
        | refine CV.scope ?_
        | refine CV.draw callees (by decide +kernel) ?_
        | refine CH.cons rfl ?_
        | refine CH.nil ?_
        | refine CO.consG rfl ?_
        | refine CH.consG rfl ?_
        | refine CG.cons rfl ?_
        | refine CR.cons ?_
        | refine CR.nil ?_
        | refine CG.nil ?_
        | refine CG.consG rfl ?_
        | refine ⟨(rfl : plain _ = true), ?_⟩
        | refine ⟨(rfl : nilOk _ = some _), ?_⟩
        | refine ⟨_, ints_len (by assumption), ?_⟩
        | refine ⟨_, ints_addr (by assumption) (by omega) (by omega), ?_⟩
        | refine ⟨_, ints_load (by assumption) (by omega) (by omega), ?_⟩
        | refine ⟨(⟨by omega, by omega⟩ : inI64 _), ?_⟩
        | refine ⟨_, fun tm ha => step1_max rfl (ev_tmp ha rfl) (ev_tmp ha rfl), ?_⟩
        | refine ⟨_, fun tm ha => step1_min rfl (ev_tmp ha rfl) (ev_tmp ha rfl), ?_⟩
        | (refine ⟨_, addrK0, ?_⟩)
        | (refine ⟨_, cell_load ag22 hgk rfl, ?_⟩)
        | (refine ⟨_, addrK1, ?_⟩)
        | (refine ⟨Value.int .i64 d, cell_load ag3 hgk rfl, ?_⟩)
        | (refine ⟨fun _ => ?_, fun _ => ?_⟩ <;> first | (exfalso; omega) | skip)
        | fail
      refine (courses_spec d.toNat (Bo := ba) (c := []) (left := xs) (out := List.replicate L.length 0) (by omega) (by omega) (.inl ⟨rfl, rfl⟩) hka.row hoa (fun x hx => by cases hx) apk (by simp; omega) (by omega) (by omega) s2 (fun i hi => by have := s3 i hi; omega) (by rw [hrep]; rw [← hdn] at hlen; exact hlen) (fun r hr => by
        rw [hrep] at hr
        rw [hr0 r hr, hcw r hr]
        have := f3 r hr
        omega)).mono ?_
      rintro _ Hb ⟨hob, kbb⟩
      rw [f4] at hob
      have hlb : Ints Hb l L := row_but hla kbb apl
      have hib : Ints Hb ov L := hob.row
      have lb := kbb.le
      repeat' first
        | refine CO.cons rfl ?_
        | refine CO.nil ?_
        | refine CV.seq ?_
        | refine CV.region callees ?_
        | refine CV.cond ?_
        | refine CV.block ?_
        | refine CV.skip ?_
        | refine CV.exit ?_
        | refine CV.ret ?_
        | refine CV.scope ?_
        | refine CV.draw callees (by decide +kernel) ?_
        | refine CH.cons rfl ?_
        | refine CH.nil ?_
        | refine CO.consG rfl ?_
        | refine CH.consG rfl ?_
        | refine CG.cons rfl ?_
        | refine CR.cons ?_
        | refine CR.nil ?_
        | refine CG.nil ?_
        | refine CG.consG rfl ?_
        | refine ⟨(rfl : plain _ = true), ?_⟩
        | refine ⟨(rfl : nilOk _ = some _), ?_⟩
        | refine ⟨_, ints_len (by assumption), ?_⟩
        | refine ⟨_, ints_addr (by assumption) (by omega) (by omega), ?_⟩
        | refine ⟨_, ints_load (by assumption) (by omega) (by omega), ?_⟩
        | refine ⟨(⟨by omega, by omega⟩ : inI64 _), ?_⟩
        | refine ⟨_, fun tm ha => step1_max rfl (ev_tmp ha rfl) (ev_tmp ha rfl), ?_⟩
        | refine ⟨_, fun tm ha => step1_min rfl (ev_tmp ha rfl) (ev_tmp ha rfl), ?_⟩
        | (refine ⟨fun _ => ?_, fun _ => ?_⟩ <;> first | (exfalso; omega) | skip)
        | fail
      refine (eqq_spec (by omega) hib hlb (by omega)).mono ?_
      rintro r Hc ⟨rfl, rfl⟩
      rw [decide_eq_true rfl]
      repeat' first
        | refine CO.cons rfl ?_
        | refine CO.nil ?_
        | refine CV.seq ?_
        | refine CV.region callees ?_
        | refine CV.cond ?_
        | refine CV.block ?_
        | refine CV.skip ?_
        | refine CV.exit ?_
        | refine CV.ret ?_
        | refine CV.scope ?_
        | refine CV.draw callees (by decide +kernel) ?_
        | refine CH.cons rfl ?_
        | refine CH.nil ?_
        | refine CO.consG rfl ?_
        | refine CH.consG rfl ?_
        | refine CG.cons rfl ?_
        | refine CR.cons ?_
        | refine CR.nil ?_
        | refine CG.nil ?_
        | refine CG.consG rfl ?_
        | refine ⟨(rfl : plain _ = true), ?_⟩
        | refine ⟨(rfl : nilOk _ = some _), ?_⟩
        | refine ⟨_, ints_len (by assumption), ?_⟩
        | refine ⟨_, ints_addr (by assumption) (by omega) (by omega), ?_⟩
        | refine ⟨_, ints_load (by assumption) (by omega) (by omega), ?_⟩
        | refine ⟨(⟨by omega, by omega⟩ : inI64 _), ?_⟩
        | refine ⟨_, fun tm ha => step1_max rfl (ev_tmp ha rfl) (ev_tmp ha rfl), ?_⟩
        | refine ⟨_, fun tm ha => step1_min rfl (ev_tmp ha rfl) (ev_tmp ha rfl), ?_⟩
        | (refine ⟨fun _ => ?_, fun _ => ?_⟩ <;> first | (exfalso; omega) | skip)
        | fail
      refine @CallB.known Try.prog (Oracle.of Try.prog kn2) _ _ (.bool true) _ _ rfl trivial (by omega) ?_
      repeat' first
        | refine CO.cons rfl ?_
        | refine CO.nil ?_
        | refine CV.seq ?_
        | refine CV.region callees ?_
        | refine CV.cond ?_
        | refine CV.block ?_
        | refine CV.skip ?_
        | refine CV.exit ?_
        | refine CV.ret ?_
        | refine CV.scope ?_
        | refine CV.draw callees (by decide +kernel) ?_
        | refine CH.cons rfl ?_
        | refine CH.nil ?_
        | refine CO.consG rfl ?_
        | refine CH.consG rfl ?_
        | refine CG.cons rfl ?_
        | refine CR.cons ?_
        | refine CR.nil ?_
        | refine CG.nil ?_
        | refine CG.consG rfl ?_
        | refine ⟨(rfl : plain _ = true), ?_⟩
        | refine ⟨(rfl : nilOk _ = some _), ?_⟩
        | refine ⟨_, ints_len (by assumption), ?_⟩
        | refine ⟨_, ints_addr (by assumption) (by omega) (by omega), ?_⟩
        | refine ⟨_, ints_load (by assumption) (by omega) (by omega), ?_⟩
        | refine ⟨(⟨by omega, by omega⟩ : inI64 _), ?_⟩
        | refine ⟨_, fun tm ha => step1_max rfl (ev_tmp ha rfl) (ev_tmp ha rfl), ?_⟩
        | refine ⟨_, fun tm ha => step1_min rfl (ev_tmp ha rfl) (ev_tmp ha rfl), ?_⟩
        | (refine ⟨fun _ => ?_, fun _ => ?_⟩ <;> first | (exfalso; omega) | skip)
        | fail
      exact ⟨rfl, rfl⟩
    · repeat' first
        | refine CO.cons rfl ?_
        | refine CO.nil ?_
        | refine CV.seq ?_
        | refine CV.region callees ?_
        | refine CV.cond ?_
        | refine CV.block ?_
        | refine CV.skip ?_
        | refine CV.exit ?_
        | refine CV.ret ?_
        | refine CV.scope ?_
        | refine CV.draw callees (by decide +kernel) ?_
        | refine CH.cons rfl ?_
        | refine CH.nil ?_
        | refine CO.consG rfl ?_
        | refine CH.consG rfl ?_
        | refine CG.cons rfl ?_
        | refine CR.cons ?_
        | refine CR.nil ?_
        | refine CG.nil ?_
        | refine CG.consG rfl ?_
        | refine ⟨(rfl : plain _ = true), ?_⟩
        | refine ⟨(rfl : nilOk _ = some _), ?_⟩
        | refine ⟨_, ints_len (by assumption), ?_⟩
        | refine ⟨_, ints_addr (by assumption) (by omega) (by omega), ?_⟩
        | refine ⟨_, ints_load (by assumption) (by omega) (by omega), ?_⟩
        | refine ⟨(⟨by omega, by omega⟩ : inI64 _), ?_⟩
        | refine ⟨_, fun tm ha => step1_max rfl (ev_tmp ha rfl) (ev_tmp ha rfl), ?_⟩
        | refine ⟨_, fun tm ha => step1_min rfl (ev_tmp ha rfl) (ev_tmp ha rfl), ?_⟩
        | (refine ⟨fun _ => ?_, fun _ => ?_⟩ <;> first | (exfalso; omega) | skip)
        | fail
      refine @CallB.known Try.prog (Oracle.of Try.prog kn2) _ _ (.bool true) _ _ rfl trivial (by omega) ?_
      repeat' first
        | refine CO.cons rfl ?_
        | refine CO.nil ?_
        | refine CV.seq ?_
        | refine CV.region callees ?_
        | refine CV.cond ?_
        | refine CV.block ?_
        | refine CV.skip ?_
        | refine CV.exit ?_
        | refine CV.ret ?_
        | refine CV.scope ?_
        | refine CV.draw callees (by decide +kernel) ?_
        | refine CH.cons rfl ?_
        | refine CH.nil ?_
        | refine CO.consG rfl ?_
        | refine CH.consG rfl ?_
        | refine CG.cons rfl ?_
        | refine CR.cons ?_
        | refine CR.nil ?_
        | refine CG.nil ?_
        | refine CG.consG rfl ?_
        | refine ⟨(rfl : plain _ = true), ?_⟩
        | refine ⟨(rfl : nilOk _ = some _), ?_⟩
        | refine ⟨_, ints_len (by assumption), ?_⟩
        | refine ⟨_, ints_addr (by assumption) (by omega) (by omega), ?_⟩
        | refine ⟨_, ints_load (by assumption) (by omega) (by omega), ?_⟩
        | refine ⟨(⟨by omega, by omega⟩ : inI64 _), ?_⟩
        | refine ⟨_, fun tm ha => step1_max rfl (ev_tmp ha rfl) (ev_tmp ha rfl), ?_⟩
        | refine ⟨_, fun tm ha => step1_min rfl (ev_tmp ha rfl) (ev_tmp ha rfl), ?_⟩
        | (refine ⟨fun _ => ?_, fun _ => ?_⟩ <;> first | (exfalso; omega) | skip)
        | fail
      exact ⟨rfl, rfl⟩
end Go.Proofs.Ytlpkbcgdcimglaa
