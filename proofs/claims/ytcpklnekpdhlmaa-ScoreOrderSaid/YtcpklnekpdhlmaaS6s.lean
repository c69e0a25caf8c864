
/- Scorings and answers that are made of numbers. -/
import Derived.Test.YtcpklnekpdhlmaaS5s
set_option linter.unusedVariables false
set_option linter.unusedSimpArgs false
namespace Go.Proofs.Ytcpklnekpdhlmaa
open Go.AI
theorem zeroS : zeroCells Try.prog 24 = some [.int .i64 0, .int .i64 0, .int .i64 0, .int .i64 0, .int .i64 0, .slice none 0 0] := by kernel_rfl
theorem allocS {H : Heap} : sAlloc Try.prog H 24 = some (.pointer (some ⟨H.n, 0, none⟩), H.new (Sc 0 0 0 0 0 (.slice none 0 0)), H.n) := alloc_of zeroS
theorem buildS {a c w n l : Int} : abuild Try.prog 24 [(0, .int .i64 a), (1, .int .i64 c), (2, .int .i64 w), (3, .int .i64 n), (4, .int .i64 l)] = some (Sv a c w n l (.slice none 0 0)) := by kernel_rfl
theorem storeS {H : Heap} {b : Nat} {a c w n l a' c' w' n' l' : Int} {k k' : Value} (hk : oneC k' = true) (hg : H.get b = some (Sc a c w n l k)) : astore Try.prog 24 H (Sv a' c' w' n' l' k') (.pointer (some ⟨b, 0, none⟩)) = some (H.set b (Sc a' c' w' n' l' k'), b) :=
  store_all (vs := [.int .i64 a', .int .i64 c', .int .i64 w', .int .i64 n', .int .i64 l', k']) hg rfl szS (by simp [oneC] at hk ⊢; exact hk)
theorem sz22 : sizeB Try.prog 22 = some 1 := by kernel_rfl
/-- A scoring that is valid: its keys are some of six, each one once. -/
structure Valid (a c w n l : Int) (ks : List Int) : Prop where
  pts : (0 ≤ a ∧ a ≤ 4) ∧ (0 ≤ c ∧ c ≤ 3) ∧ (0 ≤ w ∧ w ≤ 19) ∧ (0 ≤ n ∧ n ≤ 5) ∧ 0 ≤ l ∧ l ≤ 3
  len : ks.length ≤ 4
  dist : Dist ks
  keys : ∀ i, i < ks.length → 1 ≤ ks[i]! ∧ ks[i]! ≤ 6
theorem ckK_ok {ks : List Int} (hd : Dist ks) (hk : ∀ i, i < ks.length → 1 ≤ ks[i]! ∧ ks[i]! ≤ 6) : ∀ m i, i + m ≤ ks.length → ckK ks m i = 0
  | 0, _, _ => rfl
  | m + 1, i, h => by
    have := hk i (by omega)
    rw [ckK, if_neg (by omega), if_neg ?_]
    · exact ckK_ok hd hk m (i + 1) (by omega)
    · intro hm
      obtain ⟨j, hj, he⟩ := List.getElem_of_mem hm
      rw [List.length_take] at hj
      rw [List.getElem_take] at he
      have := hd j i (by omega) (by omega) (by rw [getElem!_pos ks j (by omega)]; exact he)
      omega
theorem Valid.ok {a c w n l : Int} {ks : List Int} (h : Valid a c w n l ks) : scE a c w n l ks = 0 := by
  obtain ⟨p1, p2, p3, p4, p5⟩ := h.pts
  rw [scE, if_neg (fun hp => hp ⟨by omega, by omega, by omega, by omega, by omega⟩), if_neg (by have := h.len; omega)]
  exact ckK_ok h.dist h.keys _ _ (by omega)
theorem two_at {x : Int} {i : Nat} (h : i < ([0, x] : List Int).length) (hx : 0 ≤ x) : 0 ≤ ([0, x] : List Int)[i]! ∧ ([0, x] : List Int)[i]! ≤ x := by
  match i, h with
  | 0, _ => exact ⟨Int.le_refl _, hx⟩
  | 1, _ => exact ⟨hx, Int.le_refl _⟩
set_option maxHeartbeats 4000000 in
set_option maxRecDepth 100000 in
theorem scoringOf_spec {B b : Nat} {H : Heap} (hB : B ≤ b) (hn : B ≤ H.n) (hb : Box b H) :
    CallB Try.prog B 15 [bp b] H (fun r H' => (∃ a c w n l k ks, r = Sv a c w n l k ∧ Valid a c w n l ks ∧ Own 3 H' k (ks.map VI) H.n) ∧ Box b H' ∧ KeepX b H H') := by
  have hbn := hb.1
  refine CV.enter callees false rfl Try.func15 rfl (by kernel_rfl) (Nat.le_of_ble_eq_true rfl) hn ?_
  repeat' first
    | refine CO.cons rfl ?_
    | refine CO.nil ?_
    | refine CV.seq ?_
    | refine CV.region callees ?_
    | refine CV.cond ?_
    | refine CV.block ?_
    | refine CV.skip ?_
    | refine CV.exit ?_
    | refine CV.ret ?_
    | refine CV.scope ?_
    | refine CV.draw callees rfl ?_
    | refine CH.cons rfl ?_
    | refine CH.nil ?_
    | refine CO.consG rfl ?_
    | refine CH.consG rfl ?_
    | refine CG.cons rfl ?_
    | refine CR.cons ?_
    | refine CR.nil ?_
    | refine CG.nil ?_
    | refine CG.consG rfl ?_
    | refine ⟨(rfl : plain _ = true), ?_⟩
    | refine ⟨(rfl : nilOk _ = some _), ?_⟩
    | refine ⟨_, ints_len (by assumption), ?_⟩
    | refine ⟨_, ints_addr (by assumption) (by omega) (by omega), ?_⟩
    | refine ⟨_, ints_load (by assumption) (by omega) (by omega), ?_⟩
    | refine ⟨(⟨by omega, by omega⟩ : inI64 _), ?_⟩
    | refine ⟨_, fun tm ha => step1_max rfl (ev_tmp ha rfl) (ev_tmp ha rfl), ?_⟩
    | refine ⟨_, fun tm ha => step1_min rfl (ev_tmp ha rfl) (ev_tmp ha rfl), ?_⟩
    | (refine ⟨_, _, allocS, ?_⟩)
    | (refine ⟨fun _ => ?_, fun _ => ?_⟩ <;> first | (exfalso; omega) | skip)
    | fail
  generalize hs0 : H.new (Sc 0 0 0 0 0 (.slice none 0 0)) = H0
  have hgr := new_get hs0
  have k0 := new_keep hs0
  have n0 := new_n hs0
  have hb0 := hb.keep k0
  have xx : KeepX b H0 H0 := KeepX.refl _ _
  repeat' first
    | refine CO.cons rfl ?_
    | refine CO.nil ?_
    | refine CV.seq ?_
    | refine CV.region callees ?_
    | refine CV.cond ?_
    | refine CV.block ?_
    | refine CV.skip ?_
    | refine CV.exit ?_
    | refine CV.ret ?_
    | refine CV.scope ?_
    | refine CV.draw callees rfl ?_
    | refine CH.cons rfl ?_
    | refine CH.nil ?_
    | refine CO.consG rfl ?_
    | refine CH.consG rfl ?_
    | refine CG.cons rfl ?_
    | refine CR.cons ?_
    | refine CR.nil ?_
    | refine CG.nil ?_
    | refine CG.consG rfl ?_
    | refine ⟨(rfl : plain _ = true), ?_⟩
    | refine ⟨(rfl : nilOk _ = some _), ?_⟩
    | refine ⟨_, ints_len (by assumption), ?_⟩
    | refine ⟨_, ints_addr (by assumption) (by omega) (by omega), ?_⟩
    | refine ⟨_, ints_load (by assumption) (by omega) (by omega), ?_⟩
    | refine ⟨(⟨by omega, by omega⟩ : inI64 _), ?_⟩
    | refine ⟨_, fun tm ha => step1_max rfl (ev_tmp ha rfl) (ev_tmp ha rfl), ?_⟩
    | refine ⟨_, fun tm ha => step1_min rfl (ev_tmp ha rfl) (ev_tmp ha rfl), ?_⟩
    | (refine ⟨fun _ => ?_, fun _ => ?_⟩ <;> first | (exfalso; omega) | skip)
    | fail
  refine (up_spec hB (by omega) hb0 (by omega)).mono ?_
  rintro r H1 ⟨⟨a, rfl, a0, a1⟩, hb1, x1⟩
  have l1 := x1.1
  replace xx := xx.trans x1
  repeat' first
    | refine CO.cons rfl ?_
    | refine CO.nil ?_
    | refine CV.seq ?_
    | refine CV.region callees ?_
    | refine CV.cond ?_
    | refine CV.block ?_
    | refine CV.skip ?_
    | refine CV.exit ?_
    | refine CV.ret ?_
    | refine CV.scope ?_
    | refine CV.draw callees rfl ?_
    | refine CH.cons rfl ?_
    | refine CH.nil ?_
    | refine CO.consG rfl ?_
    | refine CH.consG rfl ?_
    | refine CG.cons rfl ?_
    | refine CR.cons ?_
    | refine CR.nil ?_
    | refine CG.nil ?_
    | refine CG.consG rfl ?_
    | refine ⟨(rfl : plain _ = true), ?_⟩
    | refine ⟨(rfl : nilOk _ = some _), ?_⟩
    | refine ⟨_, ints_len (by assumption), ?_⟩
    | refine ⟨_, ints_addr (by assumption) (by omega) (by omega), ?_⟩
    | refine ⟨_, ints_load (by assumption) (by omega) (by omega), ?_⟩
    | refine ⟨(⟨by omega, by omega⟩ : inI64 _), ?_⟩
    | refine ⟨_, fun tm ha => step1_max rfl (ev_tmp ha rfl) (ev_tmp ha rfl), ?_⟩
    | refine ⟨_, fun tm ha => step1_min rfl (ev_tmp ha rfl) (ev_tmp ha rfl), ?_⟩
    | (refine ⟨fun _ => ?_, fun _ => ?_⟩ <;> first | (exfalso; omega) | skip)
    | fail
  refine (up_spec hB (by omega) hb1 (by omega)).mono ?_
  rintro r H2 ⟨⟨c, rfl, c0, c1⟩, hb2, x2⟩
  have l2 := x2.1
  replace xx := xx.trans x2
  repeat' first
    | refine CO.cons rfl ?_
    | refine CO.nil ?_
    | refine CV.seq ?_
    | refine CV.region callees ?_
    | refine CV.cond ?_
    | refine CV.block ?_
    | refine CV.skip ?_
    | refine CV.exit ?_
    | refine CV.ret ?_
    | refine CV.scope ?_
    | refine CV.draw callees rfl ?_
    | refine CH.cons rfl ?_
    | refine CH.nil ?_
    | refine CO.consG rfl ?_
    | refine CH.consG rfl ?_
    | refine CG.cons rfl ?_
    | refine CR.cons ?_
    | refine CR.nil ?_
    | refine CG.nil ?_
    | refine CG.consG rfl ?_
    | refine ⟨(rfl : plain _ = true), ?_⟩
    | refine ⟨(rfl : nilOk _ = some _), ?_⟩
    | refine ⟨_, ints_len (by assumption), ?_⟩
    | refine ⟨_, ints_addr (by assumption) (by omega) (by omega), ?_⟩
    | refine ⟨_, ints_load (by assumption) (by omega) (by omega), ?_⟩
    | refine ⟨(⟨by omega, by omega⟩ : inI64 _), ?_⟩
    | refine ⟨_, fun tm ha => step1_max rfl (ev_tmp ha rfl) (ev_tmp ha rfl), ?_⟩
    | refine ⟨_, fun tm ha => step1_min rfl (ev_tmp ha rfl) (ev_tmp ha rfl), ?_⟩
    | (refine ⟨fun _ => ?_, fun _ => ?_⟩ <;> first | (exfalso; omega) | skip)
    | fail
  refine (up_spec hB (by omega) hb2 (by omega)).mono ?_
  rintro r H3 ⟨⟨w, rfl, w0, w1⟩, hb3, x3⟩
  have lH3 := x3.1
  replace xx := xx.trans x3
  repeat' first
    | refine CO.cons rfl ?_
    | refine CO.nil ?_
    | refine CV.seq ?_
    | refine CV.region callees ?_
    | refine CV.cond ?_
    | refine CV.block ?_
    | refine CV.skip ?_
    | refine CV.exit ?_
    | refine CV.ret ?_
    | refine CV.scope ?_
    | refine CV.draw callees rfl ?_
    | refine CH.cons rfl ?_
    | refine CH.nil ?_
    | refine CO.consG rfl ?_
    | refine CH.consG rfl ?_
    | refine CG.cons rfl ?_
    | refine CR.cons ?_
    | refine CR.nil ?_
    | refine CG.nil ?_
    | refine CG.consG rfl ?_
    | refine ⟨(rfl : plain _ = true), ?_⟩
    | refine ⟨(rfl : nilOk _ = some _), ?_⟩
    | refine ⟨_, ints_len (by assumption), ?_⟩
    | refine ⟨_, ints_addr (by assumption) (by omega) (by omega), ?_⟩
    | refine ⟨_, ints_load (by assumption) (by omega) (by omega), ?_⟩
    | refine ⟨(⟨by omega, by omega⟩ : inI64 _), ?_⟩
    | refine ⟨_, fun tm ha => step1_max rfl (ev_tmp ha rfl) (ev_tmp ha rfl), ?_⟩
    | refine ⟨_, fun tm ha => step1_min rfl (ev_tmp ha rfl) (ev_tmp ha rfl), ?_⟩
    | refine ⟨_, _, build_vals [VI 0, VI w] un22 one3 rfl (Nat.le_of_ble_eq_true rfl), ?_⟩
    | (refine ⟨fun _ => ?_, fun _ => ?_⟩ <;> first | (exfalso; omega) | skip)
    | fail
  generalize hsH3 : Heap.new _ _ = H4
  have hwH3 : Ints H4 (.slice (some ⟨H3.n, 0, none⟩) 2 0) [0, w] := by rw [← hsH3]; exact new_row rfl
  have knH3 := new_keep hsH3
  have hcH3 := hb3.keep knH3
  have llH3 := knH3.1
  replace xx := xx.trans (knH3.butX b)
  refine (pick_spec hB (by omega) hcH3 hwH3 (Nat.le_of_ble_eq_true rfl) (Nat.le_of_ble_eq_true rfl)).mono ?_
  rintro r H5 ⟨⟨i1, hi1, rfl⟩, hb5, x5⟩
  have l5 := x5.1
  replace xx := xx.trans x5
  have t1 := two_at hi1 w0
  generalize ([0, w] : List Int)[i1]! = w' at t1 ⊢
  repeat' first
    | refine CO.cons rfl ?_
    | refine CO.nil ?_
    | refine CV.seq ?_
    | refine CV.region callees ?_
    | refine CV.cond ?_
    | refine CV.block ?_
    | refine CV.skip ?_
    | refine CV.exit ?_
    | refine CV.ret ?_
    | refine CV.scope ?_
    | refine CV.draw callees rfl ?_
    | refine CH.cons rfl ?_
    | refine CH.nil ?_
    | refine CO.consG rfl ?_
    | refine CH.consG rfl ?_
    | refine CG.cons rfl ?_
    | refine CR.cons ?_
    | refine CR.nil ?_
    | refine CG.nil ?_
    | refine CG.consG rfl ?_
    | refine ⟨(rfl : plain _ = true), ?_⟩
    | refine ⟨(rfl : nilOk _ = some _), ?_⟩
    | refine ⟨_, ints_len (by assumption), ?_⟩
    | refine ⟨_, ints_addr (by assumption) (by omega) (by omega), ?_⟩
    | refine ⟨_, ints_load (by assumption) (by omega) (by omega), ?_⟩
    | refine ⟨(⟨by omega, by omega⟩ : inI64 _), ?_⟩
    | refine ⟨_, fun tm ha => step1_max rfl (ev_tmp ha rfl) (ev_tmp ha rfl), ?_⟩
    | refine ⟨_, fun tm ha => step1_min rfl (ev_tmp ha rfl) (ev_tmp ha rfl), ?_⟩
    | (refine ⟨fun _ => ?_, fun _ => ?_⟩ <;> first | (exfalso; omega) | skip)
    | fail
  refine (up_spec hB (by omega) hb5 (by omega)).mono ?_
  rintro r H6 ⟨⟨n, rfl, n0, n1⟩, hb6, x6⟩
  have lH6 := x6.1
  replace xx := xx.trans x6
  repeat' first
    | refine CO.cons rfl ?_
    | refine CO.nil ?_
    | refine CV.seq ?_
    | refine CV.region callees ?_
    | refine CV.cond ?_
    | refine CV.block ?_
    | refine CV.skip ?_
    | refine CV.exit ?_
    | refine CV.ret ?_
    | refine CV.scope ?_
    | refine CV.draw callees rfl ?_
    | refine CH.cons rfl ?_
    | refine CH.nil ?_
    | refine CO.consG rfl ?_
    | refine CH.consG rfl ?_
    | refine CG.cons rfl ?_
    | refine CR.cons ?_
    | refine CR.nil ?_
    | refine CG.nil ?_
    | refine CG.consG rfl ?_
    | refine ⟨(rfl : plain _ = true), ?_⟩
    | refine ⟨(rfl : nilOk _ = some _), ?_⟩
    | refine ⟨_, ints_len (by assumption), ?_⟩
    | refine ⟨_, ints_addr (by assumption) (by omega) (by omega), ?_⟩
    | refine ⟨_, ints_load (by assumption) (by omega) (by omega), ?_⟩
    | refine ⟨(⟨by omega, by omega⟩ : inI64 _), ?_⟩
    | refine ⟨_, fun tm ha => step1_max rfl (ev_tmp ha rfl) (ev_tmp ha rfl), ?_⟩
    | refine ⟨_, fun tm ha => step1_min rfl (ev_tmp ha rfl) (ev_tmp ha rfl), ?_⟩
    | refine ⟨_, _, build_vals [VI 0, VI n] un22 one3 rfl (Nat.le_of_ble_eq_true rfl), ?_⟩
    | (refine ⟨fun _ => ?_, fun _ => ?_⟩ <;> first | (exfalso; omega) | skip)
    | fail
  generalize hsH6 : Heap.new _ _ = H7
  have hwH6 : Ints H7 (.slice (some ⟨H6.n, 0, none⟩) 2 0) [0, n] := by rw [← hsH6]; exact new_row rfl
  have knH6 := new_keep hsH6
  have hcH6 := hb6.keep knH6
  have llH6 := knH6.1
  replace xx := xx.trans (knH6.butX b)
  refine (pick_spec hB (by omega) hcH6 hwH6 (Nat.le_of_ble_eq_true rfl) (Nat.le_of_ble_eq_true rfl)).mono ?_
  rintro r H8 ⟨⟨i2, hi2, rfl⟩, hb8, x8⟩
  have l8 := x8.1
  replace xx := xx.trans x8
  have t2 := two_at hi2 n0
  generalize ([0, n] : List Int)[i2]! = n' at t2 ⊢
  repeat' first
    | refine CO.cons rfl ?_
    | refine CO.nil ?_
    | refine CV.seq ?_
    | refine CV.region callees ?_
    | refine CV.cond ?_
    | refine CV.block ?_
    | refine CV.skip ?_
    | refine CV.exit ?_
    | refine CV.ret ?_
    | refine CV.scope ?_
    | refine CV.draw callees rfl ?_
    | refine CH.cons rfl ?_
    | refine CH.nil ?_
    | refine CO.consG rfl ?_
    | refine CH.consG rfl ?_
    | refine CG.cons rfl ?_
    | refine CR.cons ?_
    | refine CR.nil ?_
    | refine CG.nil ?_
    | refine CG.consG rfl ?_
    | refine ⟨(rfl : plain _ = true), ?_⟩
    | refine ⟨(rfl : nilOk _ = some _), ?_⟩
    | refine ⟨_, ints_len (by assumption), ?_⟩
    | refine ⟨_, ints_addr (by assumption) (by omega) (by omega), ?_⟩
    | refine ⟨_, ints_load (by assumption) (by omega) (by omega), ?_⟩
    | refine ⟨(⟨by omega, by omega⟩ : inI64 _), ?_⟩
    | refine ⟨_, fun tm ha => step1_max rfl (ev_tmp ha rfl) (ev_tmp ha rfl), ?_⟩
    | refine ⟨_, fun tm ha => step1_min rfl (ev_tmp ha rfl) (ev_tmp ha rfl), ?_⟩
    | (refine ⟨fun _ => ?_, fun _ => ?_⟩ <;> first | (exfalso; omega) | skip)
    | fail
  refine (up_spec hB (by omega) hb8 (by omega)).mono ?_
  rintro r H9 ⟨⟨l, rfl, l0, l1⟩, hb9, x9⟩
  have lH9 := x9.1
  replace xx := xx.trans x9
  repeat' first
    | refine CO.cons rfl ?_
    | refine CO.nil ?_
    | refine CV.seq ?_
    | refine CV.region callees ?_
    | refine CV.cond ?_
    | refine CV.block ?_
    | refine CV.skip ?_
    | refine CV.exit ?_
    | refine CV.ret ?_
    | refine CV.scope ?_
    | refine CV.draw callees rfl ?_
    | refine CH.cons rfl ?_
    | refine CH.nil ?_
    | refine CO.consG rfl ?_
    | refine CH.consG rfl ?_
    | refine CG.cons rfl ?_
    | refine CR.cons ?_
    | refine CR.nil ?_
    | refine CG.nil ?_
    | refine CG.consG rfl ?_
    | refine ⟨(rfl : plain _ = true), ?_⟩
    | refine ⟨(rfl : nilOk _ = some _), ?_⟩
    | refine ⟨_, ints_len (by assumption), ?_⟩
    | refine ⟨_, ints_addr (by assumption) (by omega) (by omega), ?_⟩
    | refine ⟨_, ints_load (by assumption) (by omega) (by omega), ?_⟩
    | refine ⟨(⟨by omega, by omega⟩ : inI64 _), ?_⟩
    | refine ⟨_, fun tm ha => step1_max rfl (ev_tmp ha rfl) (ev_tmp ha rfl), ?_⟩
    | refine ⟨_, fun tm ha => step1_min rfl (ev_tmp ha rfl) (ev_tmp ha rfl), ?_⟩
    | refine ⟨_, _, build_vals [VI 0, VI l] un22 one3 rfl (Nat.le_of_ble_eq_true rfl), ?_⟩
    | (refine ⟨fun _ => ?_, fun _ => ?_⟩ <;> first | (exfalso; omega) | skip)
    | fail
  generalize hsH9 : Heap.new _ _ = Ha
  have hwH9 : Ints Ha (.slice (some ⟨H9.n, 0, none⟩) 2 0) [0, l] := by rw [← hsH9]; exact new_row rfl
  have knH9 := new_keep hsH9
  have hcH9 := hb9.keep knH9
  have llH9 := knH9.1
  replace xx := xx.trans (knH9.butX b)
  refine (pick_spec hB (by omega) hcH9 hwH9 (Nat.le_of_ble_eq_true rfl) (Nat.le_of_ble_eq_true rfl)).mono ?_
  rintro r Hb ⟨⟨i3, hi3, rfl⟩, hbb, xb⟩
  have lb := xb.1
  replace xx := xx.trans xb
  have t3 := two_at hi3 l0
  generalize ([0, l] : List Int)[i3]! = l' at t3 ⊢
  repeat' first
    | refine CO.cons rfl ?_
    | refine CO.nil ?_
    | refine CV.seq ?_
    | refine CV.region callees ?_
    | refine CV.cond ?_
    | refine CV.block ?_
    | refine CV.skip ?_
    | refine CV.exit ?_
    | refine CV.ret ?_
    | refine CV.scope ?_
    | refine CV.draw callees rfl ?_
    | refine CH.cons rfl ?_
    | refine CH.nil ?_
    | refine CO.consG rfl ?_
    | refine CH.consG rfl ?_
    | refine CG.cons rfl ?_
    | refine CR.cons ?_
    | refine CR.nil ?_
    | refine CG.nil ?_
    | refine CG.consG rfl ?_
    | refine ⟨(rfl : plain _ = true), ?_⟩
    | refine ⟨(rfl : nilOk _ = some _), ?_⟩
    | refine ⟨_, ints_len (by assumption), ?_⟩
    | refine ⟨_, ints_addr (by assumption) (by omega) (by omega), ?_⟩
    | refine ⟨_, ints_load (by assumption) (by omega) (by omega), ?_⟩
    | refine ⟨(⟨by omega, by omega⟩ : inI64 _), ?_⟩
    | refine ⟨_, fun tm ha => step1_max rfl (ev_tmp ha rfl) (ev_tmp ha rfl), ?_⟩
    | refine ⟨_, fun tm ha => step1_min rfl (ev_tmp ha rfl) (ev_tmp ha rfl), ?_⟩
    | (refine ⟨_, buildS, ?_⟩)
    | (refine ⟨_, _, allocS, ?_⟩)
    | (refine ⟨fun _ => ?_, fun _ => ?_⟩ <;> first | (exfalso; omega) | skip)
    | fail
  generalize hsd : Hb.new (Sc 0 0 0 0 0 (.slice none 0 0)) = Hd
  have hgd := new_get hsd
  have kd := new_keep hsd
  have nd := new_n hsd
  replace xx := xx.trans (kd.butX b)
  obtain ⟨bs, hbs⟩ : ∃ bs, Hb.n = bs := ⟨_, rfl⟩
  rw [hbs] at hgd nd ⊢
  refine ⟨_, _, storeS (k' := .slice none 0 0) rfl hgd, by omega, ?_⟩
  generalize hse : Hd.set bs (Sc a c w' n' l' (.slice none 0 0)) = He
  have hge := set_get hse
  have ne := set_n hse
  replace xx := keepX_put xx (by omega) (set_old hse) ne
  have hbe : Box b He := box_put (hbb.keep kd) (by omega) (set_old hse) ne
  repeat' first
    | refine CO.cons rfl ?_
    | refine CO.nil ?_
    | refine CV.seq ?_
    | refine CV.region callees ?_
    | refine CV.cond ?_
    | refine CV.block ?_
    | refine CV.skip ?_
    | refine CV.exit ?_
    | refine CV.ret ?_
    | refine CV.scope ?_
    | refine CV.draw callees rfl ?_
    | refine CH.cons rfl ?_
    | refine CH.nil ?_
    | refine CO.consG rfl ?_
    | refine CH.consG rfl ?_
    | refine CG.cons rfl ?_
    | refine CR.cons ?_
    | refine CR.nil ?_
    | refine CG.nil ?_
    | refine CG.consG rfl ?_
    | refine ⟨(rfl : plain _ = true), ?_⟩
    | refine ⟨(rfl : nilOk _ = some _), ?_⟩
    | refine ⟨_, ints_len (by assumption), ?_⟩
    | refine ⟨_, ints_addr (by assumption) (by omega) (by omega), ?_⟩
    | refine ⟨_, ints_load (by assumption) (by omega) (by omega), ?_⟩
    | refine ⟨(⟨by omega, by omega⟩ : inI64 _), ?_⟩
    | refine ⟨_, fun tm ha => step1_max rfl (ev_tmp ha rfl) (ev_tmp ha rfl), ?_⟩
    | refine ⟨_, fun tm ha => step1_min rfl (ev_tmp ha rfl) (ev_tmp ha rfl), ?_⟩
    | (refine ⟨fun _ => ?_, fun _ => ?_⟩ <;> first | (exfalso; omega) | skip)
    | fail
  refine (order_spec (n := 6) hB (by omega) hbe (by omega)).mono ?_
  rintro o Hf ⟨⟨os, ho, lo, hof⟩, hbf, xf⟩
  have lf := xf.1
  replace xx := xx.trans xf
  have hgf : Hf.get bs = some (Sc a c w' n' l' (.slice none 0 0)) := by rw [xf.2 bs (by omega) (by omega)]; exact hge
  repeat' first
    | refine CO.cons rfl ?_
    | refine CO.nil ?_
    | refine CV.seq ?_
    | refine CV.region callees ?_
    | refine CV.cond ?_
    | refine CV.block ?_
    | refine CV.skip ?_
    | refine CV.exit ?_
    | refine CV.ret ?_
    | refine CV.scope ?_
    | refine CV.draw callees rfl ?_
    | refine CH.cons rfl ?_
    | refine CH.nil ?_
    | refine CO.consG rfl ?_
    | refine CH.consG rfl ?_
    | refine CG.cons rfl ?_
    | refine CR.cons ?_
    | refine CR.nil ?_
    | refine CG.nil ?_
    | refine CG.consG rfl ?_
    | refine ⟨(rfl : plain _ = true), ?_⟩
    | refine ⟨(rfl : nilOk _ = some _), ?_⟩
    | refine ⟨_, ints_len (by assumption), ?_⟩
    | refine ⟨_, ints_addr (by assumption) (by omega) (by omega), ?_⟩
    | refine ⟨_, ints_load (by assumption) (by omega) (by omega), ?_⟩
    | refine ⟨(⟨by omega, by omega⟩ : inI64 _), ?_⟩
    | refine ⟨_, fun tm ha => step1_max rfl (ev_tmp ha rfl) (ev_tmp ha rfl), ?_⟩
    | refine ⟨_, fun tm ha => step1_min rfl (ev_tmp ha rfl) (ev_tmp ha rfl), ?_⟩
    | (refine ⟨fun _ => ?_, fun _ => ?_⟩ <;> first | (exfalso; omega) | skip)
    | fail
  refine (up_spec hB (by omega) hbf (by omega)).mono ?_
  rintro r Hg ⟨⟨m, rfl, m0, m1⟩, hbg, xg⟩
  have lg := xg.1
  replace xx := xx.trans xg
  have hgg : Hg.get bs = some (Sc a c w' n' l' (.slice none 0 0)) := by rw [xg.2 bs (by omega) (by omega)]; exact hgf
  have hog : Own 3 Hg o (os.map VI) He.n := own_box hof xg hbf
  have hoB : ∀ d, blkOf o = some d → d < Hg.n := fun d hd => (hog.lt hd).2
  repeat' first
    | refine CO.cons rfl ?_
    | refine CO.nil ?_
    | refine CV.seq ?_
    | refine CV.region callees ?_
    | refine CV.cond ?_
    | refine CV.block ?_
    | refine CV.skip ?_
    | refine CV.exit ?_
    | refine CV.ret ?_
    | refine CV.scope ?_
    | refine CV.draw callees rfl ?_
    | refine CH.cons rfl ?_
    | refine CH.nil ?_
    | refine CO.consG rfl ?_
    | refine CH.consG rfl ?_
    | refine CG.cons rfl ?_
    | refine CR.cons ?_
    | refine CR.nil ?_
    | refine CG.nil ?_
    | refine CG.consG rfl ?_
    | refine ⟨(rfl : plain _ = true), ?_⟩
    | refine ⟨(rfl : nilOk _ = some _), ?_⟩
    | refine ⟨_, ints_len (by assumption), ?_⟩
    | refine ⟨_, ints_addr (by assumption) (by omega) (by omega), ?_⟩
    | refine ⟨_, ints_load (by assumption) (by omega) (by omega), ?_⟩
    | refine ⟨(⟨by omega, by omega⟩ : inI64 _), ?_⟩
    | refine ⟨_, fun tm ha => step1_max rfl (ev_tmp ha rfl) (ev_tmp ha rfl), ?_⟩
    | refine ⟨_, fun tm ha => step1_min rfl (ev_tmp ha rfl) (ev_tmp ha rfl), ?_⟩
    | (refine ⟨fun _ => ?_, fun _ => ?_⟩ <;> first | (exfalso; omega) | skip)
    | fail
  refine CV.loopc ?_
  refine WCv.rounds callees false (α := Int × Value × List Int) (fun (i, kv, ks) => [(0, bp b), (2, .pointer (some ⟨H.n, 0, none⟩)), (3, .pointer (some ⟨bs, 0, none⟩)), (4, o), (5, .int .i64 i)]) (fun (i, kv, ks) Hz => (0 ≤ i ∧ (ks.length : Int) + i = m) ∧ Own 3 Hz kv (ks.map VI) Hg.n ∧ Box b Hz ∧ KeepX b H0 Hz ∧ Hz.get bs = some (Sc a c w' n' l' kv) ∧ Own 3 Hz o (os.map VI) He.n ∧ (∀ t, t < ks.length → ks[t]! = 1 + os[(m - t).toNat]!) ∧ Hg.n ≤ Hz.n) (fun (i, kv, ks) => i.toNat) (m, .slice none 0 0, []) (by repeat' first | exact trivial | refine ⟨rfl, ?_⟩ | refine ⟨slot_int (by (try simp only [Int.toNat_natCast]); omega), ?_⟩) ?_ ?_
  · exact ⟨⟨by omega, by simp⟩, .inl ⟨rfl, rfl⟩, hbg, xx, hgg, hog, fun t ht => by simp at ht, Nat.le_refl _⟩
  rintro ⟨i, kv, ks⟩ Hx ⟨⟨hi0, hi1⟩, hkv, hbx, xh, hgx, hox, hks, lx⟩ hBx
  by_cases hi : 0 < i
  · have hoi := ho.2 i.toNat (by omega)
    have hol : Ints Hx o os := hox.row
    repeat' first
      | refine CO.cons rfl ?_
      | refine CO.nil ?_
      | refine CV.seq ?_
      | refine CV.region callees ?_
      | refine CV.cond ?_
      | refine CV.block ?_
      | refine CV.skip ?_
      | refine CV.exit ?_
      | refine CV.ret ?_
      | refine CV.scope ?_
      | refine CV.draw callees rfl ?_
      | refine CH.cons rfl ?_
      | refine CH.nil ?_
      | refine CO.consG rfl ?_
      | refine CH.consG rfl ?_
      | refine CG.cons rfl ?_
      | refine CR.cons ?_
      | refine CR.nil ?_
      | refine CG.nil ?_
      | refine CG.consG rfl ?_
      | refine ⟨(rfl : plain _ = true), ?_⟩
      | refine ⟨(rfl : nilOk _ = some _), ?_⟩
      | refine ⟨_, ints_len (by assumption), ?_⟩
      | refine ⟨_, ints_addr (by assumption) (by omega) (by omega), ?_⟩
      | refine ⟨_, ints_load (by assumption) (by omega) (by omega), ?_⟩
      | refine ⟨(⟨by omega, by omega⟩ : inI64 _), ?_⟩
      | refine ⟨_, fun tm ha => step1_max rfl (ev_tmp ha rfl) (ev_tmp ha rfl), ?_⟩
      | refine ⟨_, fun tm ha => step1_min rfl (ev_tmp ha rfl) (ev_tmp ha rfl), ?_⟩
      | refine CV.ap callees rfl rfl [0, 1, 2, 3, 4, 5, 6, 7] (by kernel_rfl) ?_
      | (refine ⟨_, addrS (by decide), ?_⟩)
      | (refine ⟨_, cell_load ag22 hgx rfl, ?_⟩)
      | refine ⟨_, _, build_one un22 one3 rfl, ?_⟩
      | (refine ⟨fun _ => ?_, fun _ => ?_⟩ <;> first | (exfalso; omega) | skip)
      | fail
    refine push_ask hkv lx (by omega) (by omega) ?_
    intro k3 H3 hk3 kb3 hf3
    have hbsk : blkOf kv ≠ some bs := fun h => by have := (hkv.lt h).1; omega
    have hg3 : H3.get bs = some (Sc a c w' n' l' kv) := by rw [kb3.get bs (by omega) hbsk]; exact hgx
    have hb3 := hbx.keepBut kb3 (own_apartBox (H0 := H) hkv (by omega))
    have x3h := kb3.keepX xh fun d hd => by have := (hkv.lt hd).1; omega
    have ho3 : Own 3 H3 o (os.map VI) He.n := hox.keepBut kb3 (fun d hd h => by have := hoB d hd; have := (hkv.lt h).1; omega)
    have l3 := kb3.le
    repeat' first
      | refine CO.cons rfl ?_
      | refine CO.nil ?_
      | refine CV.seq ?_
      | refine CV.region callees ?_
      | refine CV.cond ?_
      | refine CV.block ?_
      | refine CV.skip ?_
      | refine CV.exit ?_
      | refine CV.ret ?_
      | refine CV.scope ?_
      | refine CV.draw callees rfl ?_
      | refine CH.cons rfl ?_
      | refine CH.nil ?_
      | refine CO.consG rfl ?_
      | refine CH.consG rfl ?_
      | refine CG.cons rfl ?_
      | refine CR.cons ?_
      | refine CR.nil ?_
      | refine CG.nil ?_
      | refine CG.consG rfl ?_
      | refine ⟨(rfl : plain _ = true), ?_⟩
      | refine ⟨(rfl : nilOk _ = some _), ?_⟩
      | refine ⟨_, ints_len (by assumption), ?_⟩
      | refine ⟨_, ints_addr (by assumption) (by omega) (by omega), ?_⟩
      | refine ⟨_, ints_load (by assumption) (by omega) (by omega), ?_⟩
      | refine ⟨(⟨by omega, by omega⟩ : inI64 _), ?_⟩
      | refine ⟨_, fun tm ha => step1_max rfl (ev_tmp ha rfl) (ev_tmp ha rfl), ?_⟩
      | refine ⟨_, fun tm ha => step1_min rfl (ev_tmp ha rfl) (ev_tmp ha rfl), ?_⟩
      | (refine ⟨_, addrS (by decide), ?_⟩)
      | (refine ⟨fun _ => ?_, fun _ => ?_⟩ <;> first | (exfalso; omega) | skip)
      | fail
    refine ⟨_, _, store_row (i := 5) sz22 hg3 (Nat.le_of_ble_eq_true rfl) hk3.row.oneC.1, by omega, ?_⟩
    generalize hst : H3.set bs (.cells (List.set [Value.int .i64 a, .int .i64 c, .int .i64 w', .int .i64 n', .int .i64 l', kv] 5 k3) 24 1) = H4
    have hg4 : H4.get bs = some (Sc a c w' n' l' k3) := set_get hst
    have n4 := set_n hst
    have xs4 : KeepX bs H3 H4 := by rw [← hst]; exact KeepX.set _ _
    have lk3 : (ks ++ [1 + os[i.toNat]!]).length = ks.length + 1 := by simp
    repeat' first
      | refine CO.cons rfl ?_
      | refine CO.nil ?_
      | refine CV.seq ?_
      | refine CV.region callees ?_
      | refine CV.cond ?_
      | refine CV.block ?_
      | refine CV.skip ?_
      | refine CV.exit ?_
      | refine CV.ret ?_
      | refine CV.scope ?_
      | refine CV.draw callees rfl ?_
      | refine CH.cons rfl ?_
      | refine CH.nil ?_
      | refine CO.consG rfl ?_
      | refine CH.consG rfl ?_
      | refine CG.cons rfl ?_
      | refine CR.cons ?_
      | refine CR.nil ?_
      | refine CG.nil ?_
      | refine CG.consG rfl ?_
      | refine ⟨(rfl : plain _ = true), ?_⟩
      | refine ⟨(rfl : nilOk _ = some _), ?_⟩
      | refine ⟨_, ints_len (by assumption), ?_⟩
      | refine ⟨_, ints_addr (by assumption) (by omega) (by omega), ?_⟩
      | refine ⟨_, ints_load (by assumption) (by omega) (by omega), ?_⟩
      | refine ⟨(⟨by omega, by omega⟩ : inI64 _), ?_⟩
      | refine ⟨_, fun tm ha => step1_max rfl (ev_tmp ha rfl) (ev_tmp ha rfl), ?_⟩
      | refine ⟨_, fun tm ha => step1_min rfl (ev_tmp ha rfl) (ev_tmp ha rfl), ?_⟩
      | (refine ⟨fun _ => ?_, fun _ => ?_⟩ <;> first | (exfalso; omega) | skip)
      | fail
    refine ⟨(i - 1, k3, ks ++ [1 + os[i.toNat]!]), (by repeat' first | exact trivial | refine ⟨rfl, ?_⟩ | refine ⟨slot_int (by (try simp only [Int.toNat_natCast]); omega), ?_⟩), (by (try dsimp only); omega), ?_⟩
    refine ⟨⟨by omega, by omega⟩, hk3.keepX xs4 hg3, box_put hb3 (by omega) (set_old hst) n4, keepX_put x3h (by omega) (set_old hst) n4, hg4, ho3.keepX xs4 hg3, fun t ht => ?_, by omega⟩
    by_cases htl : t < ks.length
    · rw [getElem!_pos _ t ht, List.getElem_append_left htl, ← getElem!_pos ks t htl]; exact hks t htl
    · have : t = ks.length := by omega
      subst this
      rw [getElem!_pos (ks ++ [1 + os[i.toNat]!]) ks.length ht, List.getElem_append_right (Nat.le_refl _)]
      simp only [Nat.sub_self, List.getElem_cons_zero]
      rw [show (m - (ks.length : Int)).toNat = i.toNat by omega]
  · have hv : Valid a c w' n' l' ks := by
      refine ⟨⟨by omega, by omega, by omega, by omega, by omega, by omega⟩, by omega, fun x y hx hy he => ?_, fun x hx => ?_⟩
      · rw [hks x hx, hks y hy] at he
        have := ho.1 (m - x).toNat (m - y).toNat (by omega) (by omega) (by omega)
        omega
      · rw [hks x hx]
        have := ho.2 (m - x).toNat (by omega)
        omega
    have hgrx : Hx.get H.n = some (Sc 0 0 0 0 0 (.slice none 0 0)) := by rw [xh.2 H.n (by omega) (by omega)]; exact hgr
    repeat' first
      | refine CO.cons rfl ?_
      | refine CO.nil ?_
      | refine CV.seq ?_
      | refine CV.region callees ?_
      | refine CV.cond ?_
      | refine CV.block ?_
      | refine CV.skip ?_
      | refine CV.exit ?_
      | refine CV.ret ?_
      | refine CV.scope ?_
      | refine CV.draw callees rfl ?_
      | refine CH.cons rfl ?_
      | refine CH.nil ?_
      | refine CO.consG rfl ?_
      | refine CH.consG rfl ?_
      | refine CG.cons rfl ?_
      | refine CR.cons ?_
      | refine CR.nil ?_
      | refine CG.nil ?_
      | refine CG.consG rfl ?_
      | refine ⟨(rfl : plain _ = true), ?_⟩
      | refine ⟨(rfl : nilOk _ = some _), ?_⟩
      | refine ⟨_, ints_len (by assumption), ?_⟩
      | refine ⟨_, ints_addr (by assumption) (by omega) (by omega), ?_⟩
      | refine ⟨_, ints_load (by assumption) (by omega) (by omega), ?_⟩
      | refine ⟨(⟨by omega, by omega⟩ : inI64 _), ?_⟩
      | refine ⟨_, fun tm ha => step1_max rfl (ev_tmp ha rfl) (ev_tmp ha rfl), ?_⟩
      | refine ⟨_, fun tm ha => step1_min rfl (ev_tmp ha rfl) (ev_tmp ha rfl), ?_⟩
      | (refine ⟨_, loadS hgx, ?_⟩)
      | (refine ⟨fun _ => ?_, fun _ => ?_⟩ <;> first | (exfalso; omega) | skip)
      | fail
    refine ⟨_, _, storeS hkv.row.oneC.1 hgrx, by omega, ?_⟩
    generalize hsz : Hx.set H.n (Sc a c w' n' l' kv) = Hy
    have hgy := set_get hsz
    have ny := set_n hsz
    have xy : KeepX H.n Hx Hy := by rw [← hsz]; exact KeepX.set _ _
    repeat' first
      | refine CO.cons rfl ?_
      | refine CO.nil ?_
      | refine CV.seq ?_
      | refine CV.region callees ?_
      | refine CV.cond ?_
      | refine CV.block ?_
      | refine CV.skip ?_
      | refine CV.exit ?_
      | refine CV.ret ?_
      | refine CV.scope ?_
      | refine CV.draw callees rfl ?_
      | refine CH.cons rfl ?_
      | refine CH.nil ?_
      | refine CO.consG rfl ?_
      | refine CH.consG rfl ?_
      | refine CG.cons rfl ?_
      | refine CR.cons ?_
      | refine CR.nil ?_
      | refine CG.nil ?_
      | refine CG.consG rfl ?_
      | refine ⟨(rfl : plain _ = true), ?_⟩
      | refine ⟨(rfl : nilOk _ = some _), ?_⟩
      | refine ⟨_, ints_len (by assumption), ?_⟩
      | refine ⟨_, ints_addr (by assumption) (by omega) (by omega), ?_⟩
      | refine ⟨_, ints_load (by assumption) (by omega) (by omega), ?_⟩
      | refine ⟨(⟨by omega, by omega⟩ : inI64 _), ?_⟩
      | refine ⟨_, fun tm ha => step1_max rfl (ev_tmp ha rfl) (ev_tmp ha rfl), ?_⟩
      | refine ⟨_, fun tm ha => step1_min rfl (ev_tmp ha rfl) (ev_tmp ha rfl), ?_⟩
      | (refine ⟨fun _ => ?_, fun _ => ?_⟩ <;> first | (exfalso; omega) | skip)
      | fail
    refine ⟨_, loadS hgy, rfl, ⟨a, c, w', n', l', kv, ks, rfl, hv, ?_⟩, box_put hbx (by omega) (set_old hsz) ny, keepX_put ((k0.butX b).trans xh) (Nat.le_refl _) (set_old hsz) ny⟩
    have := hkv.keepX xy hgrx
    rcases this with h | ⟨d, h1, h2, h3⟩
    · exact .inl h
    · exact .inr ⟨d, h1, by omega, h3⟩
end Go.Proofs.Ytcpklnekpdhlmaa
