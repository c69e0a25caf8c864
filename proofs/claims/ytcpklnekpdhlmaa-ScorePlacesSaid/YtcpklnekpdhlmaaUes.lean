
/- ScorePlaces: its function answers true. -/
import Derived.Test.YtcpklnekpdhlmaaUds
import Derived.Test.YtcpklnekpdhlmaaSfs
set_option linter.unusedVariables false
set_option linter.unusedSimpArgs false
namespace Go.Proofs.Ytcpklnekpdhlmaa
open Go.AI
theorem alloc_x {H : Heap} {x : Scr} : anew H (Value.cells x.v).toList 36 1 = H.new (Xc x.p x.k x.w x.r x.n x.o x.s x.h) := rfl
set_option maxRecDepth 100000 in
theorem worth_spec {B : Nat} {H : Heap} {x : Scr} {i q : Int} (hB : B ≤ H.n) (hq : 1 ≤ q ∧ q ≤ 6) (h0 : 0 ≤ i) (h1 : i < 1000000) :
    CallB Try.prog B 43 [x.v, .int .i64 i, .int .i64 q] H (fun r H' => r = .int .i64 (amt x i q) ∧ Keep H H') := by
  refine CV.enter callees false rfl Try.func43 rfl (by kernel_rfl) (Nat.le_of_ble_eq_true rfl) hB ?_
  repeat' first
    | refine CO.cons rfl ?_
    | refine CO.nil ?_
    | refine CV.seq ?_
    | refine CV.region callees ?_
    | refine CV.cond ?_
    | refine CV.block ?_
    | refine CV.skip ?_
    | refine CV.exit ?_
    | refine CV.ret ?_
    | refine CV.scope ?_
    | refine CV.draw callees rfl ?_
    | refine CH.cons rfl ?_
    | refine CH.nil ?_
    | refine CO.consG rfl ?_
    | refine CH.consG rfl ?_
    | refine CG.cons rfl ?_
    | refine CR.cons ?_
    | refine CR.nil ?_
    | refine CG.nil ?_
    | refine CG.consG rfl ?_
    | refine ⟨(rfl : plain _ = true), ?_⟩
    | refine ⟨(rfl : nilOk _ = some _), ?_⟩
    | refine ⟨_, ints_len (by assumption), ?_⟩
    | refine ⟨_, ints_addr (by assumption) (by omega) (by omega), ?_⟩
    | refine ⟨_, ints_load (by assumption) (by omega) (by omega), ?_⟩
    | refine ⟨(⟨by omega, by omega⟩ : inI64 _), ?_⟩
    | refine ⟨_, fun tm ha => step1_max rfl (ev_tmp ha rfl) (ev_tmp ha rfl), ?_⟩
    | refine ⟨_, fun tm ha => step1_min rfl (ev_tmp ha rfl) (ev_tmp ha rfl), ?_⟩
    | (refine ⟨fun _ => ?_, fun _ => ?_⟩ <;> first | (exfalso; omega) | skip)
    | fail
  refine ⟨(rfl : notTuple _ = true), ?_⟩
  rw [alloc_x]
  generalize hs : H.new (Xc x.p x.k x.w x.r x.n x.o x.s x.h) = Hs
  have hg := new_get hs
  have kk := new_keep hs
  repeat' first
    | refine CO.cons rfl ?_
    | refine CO.nil ?_
    | refine CV.seq ?_
    | refine CV.region callees ?_
    | refine CV.cond ?_
    | refine CV.block ?_
    | refine CV.skip ?_
    | refine CV.exit ?_
    | refine CV.ret ?_
    | refine CV.scope ?_
    | refine CV.draw callees rfl ?_
    | refine CH.cons rfl ?_
    | refine CH.nil ?_
    | refine CO.consG rfl ?_
    | refine CH.consG rfl ?_
    | refine CG.cons rfl ?_
    | refine CR.cons ?_
    | refine CR.nil ?_
    | refine CG.nil ?_
    | refine CG.consG rfl ?_
    | refine ⟨(rfl : plain _ = true), ?_⟩
    | refine ⟨(rfl : nilOk _ = some _), ?_⟩
    | refine ⟨_, ints_len (by assumption), ?_⟩
    | refine ⟨_, ints_addr (by assumption) (by omega) (by omega), ?_⟩
    | refine ⟨_, ints_load (by assumption) (by omega) (by omega), ?_⟩
    | refine ⟨(⟨by omega, by omega⟩ : inI64 _), ?_⟩
    | refine ⟨_, fun tm ha => step1_max rfl (ev_tmp ha rfl) (ev_tmp ha rfl), ?_⟩
    | refine ⟨_, fun tm ha => step1_min rfl (ev_tmp ha rfl) (ev_tmp ha rfl), ?_⟩
    | (refine ⟨_, addrX (by decide), ?_⟩)
    | (refine ⟨_, cell_load ag3 hg rfl, ?_⟩)
    | (refine ⟨_, fun tm ha => step1_neg rfl (ev_tmp ha rfl), ?_⟩)
    | (refine ⟨fun _ => ?_, fun _ => ?_⟩ <;> first | (exfalso; omega) | skip)
    | fail
  all_goals refine ⟨rfl, congrArg (Value.int .i64) ?_, kk⟩
  all_goals (try rw [wrapI (n := 0 - i) (by omega) (by omega)])
  all_goals (unfold amt; (repeat' split) <;> omega)
theorem amt_seat {x : Scr} {i j q : Int} (h : q ≠ 6) (h1 : 1 ≤ q ∧ q ≤ 6) : amt x i q = amt x j q := by
  unfold amt; (repeat' split) <;> first | rfl | (exfalso; omega)
theorem good_push {ts xs : List Int} {ls : List (List Int)} (h : ∀ i : Nat, i < ls.length → ls[i]!.length = ts.length ∧ ∀ j, j < ls[i]!.length → okN ls[i]![j]! = true) (hx : xs.length = ts.length ∧ ∀ j, j < xs.length → okN xs[j]! = true) :
    ∀ i : Nat, i < (ls ++ [xs]).length → (ls ++ [xs])[i]!.length = ts.length ∧ ∀ j, j < (ls ++ [xs])[i]!.length → okN (ls ++ [xs])[i]![j]! = true := fun i hi => by
  rw [at_snoc]
  rw [List.length_append, List.length_singleton] at hi
  by_cases h1 : i < ls.length
  · rw [if_pos h1]; exact h i h1
  · rw [if_neg h1, if_pos (by omega)]; exact hx
/-- The order of guests does not matter, without the seat. -/
theorem places_perm {a c w n l : Int} {ks ts os : List Int} {ls ms : List (List Int)} {xs ys : List Scr} (hq : ∀ t, t < ks.length → 1 ≤ ks[t]! ∧ ks[t]! ≤ 6) (h6 : (6 : Int) ∉ ks) (ho : OrderL os) (lo : os.length = ls.length) (lm : ms.length = ls.length) (hm : ∀ i, i < ls.length → ms[i]! = ls[(os[i]!).toNat]!)
    (lx : xs.length = ls.length) (ly : ys.length = ms.length) (hx : ScOf a c w n l ts ls xs) (hy : ScOf a c w n l ts ms ys) {i : Nat} (hi : i < ls.length) : Pl ks ys i = Pl ks xs (os[i]!).toNat := by
  unfold Pl
  rw [show ys.length = xs.length by omega]
  have hb : ∀ i, i < xs.length → (os[i]!).toNat < xs.length := fun i hi => by have := ho.2 i (by omega); omega
  refine pl_perm (f := fun i => (os[i]!).toNat) hb (fun i j hi hj e => ?_) (fun i hi q hq2 => ?_) (by omega)
  · have h1 := ho.2 i (by omega)
    have h2 := ho.2 j (by omega)
    exact ho.1 i j (by omega) (by omega) (by omega)
  · obtain ⟨h1, e1, g1⟩ := hx _ (hb i hi)
    obtain ⟨h2, e2, g2⟩ := hy i (by omega)
    rw [hm i (by omega)] at e2 g2
    have : h1 = h2 := g1.one g2
    subst this
    rw [e1, e2]
    obtain ⟨t, ht, rfl⟩ := List.getElem_of_mem hq2
    have hk := hq t ht
    rw [getElem!_pos ks t ht] at hk
    exact amt_seat (fun e => h6 (e ▸ hq2)) hk
set_option maxHeartbeats 8000000 in
set_option maxRecDepth 100000 in
theorem scorePlaces_spec {v : Value} {H : Heap} {xs : List Int} (hBase : Base H) (hv : Ints H v xs) (hx : xs.length ≤ 9223372036854775807) (_ : ∀ x ∈ xs, inI64 x) :
    CallB Try.prog H.n 11 [v] H (fun r _ => r = .bool true) := by
  have hn : H.n ≤ H.n := Nat.le_refl _
  refine CV.enter callees false rfl Try.func11 rfl (by kernel_rfl) (Nat.le_of_ble_eq_true rfl) hn ?_
  repeat' first
    | refine CO.cons rfl ?_
    | refine CO.nil ?_
    | refine CV.seq ?_
    | refine CV.region callees ?_
    | refine CV.cond ?_
    | refine CV.block ?_
    | refine CV.skip ?_
    | refine CV.exit ?_
    | refine CV.ret ?_
    | refine CV.scope ?_
    | refine CV.draw callees rfl ?_
    | refine CH.cons rfl ?_
    | refine CH.nil ?_
    | refine CO.consG rfl ?_
    | refine CH.consG rfl ?_
    | refine CG.cons rfl ?_
    | refine CR.cons ?_
    | refine CR.nil ?_
    | refine CG.nil ?_
    | refine CG.consG rfl ?_
    | refine ⟨(rfl : plain _ = true), ?_⟩
    | refine ⟨(rfl : nilOk _ = some _), ?_⟩
    | refine ⟨_, ints_len (by assumption), ?_⟩
    | refine ⟨_, ints_addr (by assumption) (by omega) (by omega), ?_⟩
    | refine ⟨_, ints_load (by assumption) (by omega) (by omega), ?_⟩
    | refine ⟨(⟨by omega, by omega⟩ : inI64 _), ?_⟩
    | refine ⟨_, fun tm ha => step1_max rfl (ev_tmp ha rfl) (ev_tmp ha rfl), ?_⟩
    | refine ⟨_, fun tm ha => step1_min rfl (ev_tmp ha rfl) (ev_tmp ha rfl), ?_⟩
    | (refine ⟨fun _ => ?_, fun _ => ?_⟩ <;> first | (exfalso; omega) | skip)
    | fail
  refine (boxOf_spec hn hv hx).mono ?_
  rintro r H1 ⟨⟨b, rfl, hb, hbox⟩, k1⟩
  repeat' first
    | refine CO.cons rfl ?_
    | refine CO.nil ?_
    | refine CV.seq ?_
    | refine CV.region callees ?_
    | refine CV.cond ?_
    | refine CV.block ?_
    | refine CV.skip ?_
    | refine CV.exit ?_
    | refine CV.ret ?_
    | refine CV.scope ?_
    | refine CV.draw callees rfl ?_
    | refine CH.cons rfl ?_
    | refine CH.nil ?_
    | refine CO.consG rfl ?_
    | refine CH.consG rfl ?_
    | refine CG.cons rfl ?_
    | refine CR.cons ?_
    | refine CR.nil ?_
    | refine CG.nil ?_
    | refine CG.consG rfl ?_
    | refine ⟨(rfl : plain _ = true), ?_⟩
    | refine ⟨(rfl : nilOk _ = some _), ?_⟩
    | refine ⟨_, ints_len (by assumption), ?_⟩
    | refine ⟨_, ints_addr (by assumption) (by omega) (by omega), ?_⟩
    | refine ⟨_, ints_load (by assumption) (by omega) (by omega), ?_⟩
    | refine ⟨(⟨by omega, by omega⟩ : inI64 _), ?_⟩
    | refine ⟨_, fun tm ha => step1_max rfl (ev_tmp ha rfl) (ev_tmp ha rfl), ?_⟩
    | refine ⟨_, fun tm ha => step1_min rfl (ev_tmp ha rfl) (ev_tmp ha rfl), ?_⟩
    | (refine ⟨fun _ => ?_, fun _ => ?_⟩ <;> first | (exfalso; omega) | skip)
    | fail
  refine (scoringOf_spec hb k1.1 hbox).mono ?_
  rintro r H2 ⟨⟨a, c, w, n, l, k, ks, rfl, hval, hk⟩, hb2, x2⟩
  have kk2 : Keep H H2 := x2.keep k1 hb
  have l2 := kk2.1
  repeat' first
    | refine CO.cons rfl ?_
    | refine CO.nil ?_
    | refine CV.seq ?_
    | refine CV.region callees ?_
    | refine CV.cond ?_
    | refine CV.block ?_
    | refine CV.skip ?_
    | refine CV.exit ?_
    | refine CV.ret ?_
    | refine CV.scope ?_
    | refine CV.draw callees rfl ?_
    | refine CH.cons rfl ?_
    | refine CH.nil ?_
    | refine CO.consG rfl ?_
    | refine CH.consG rfl ?_
    | refine CG.cons rfl ?_
    | refine CR.cons ?_
    | refine CR.nil ?_
    | refine CG.nil ?_
    | refine CG.consG rfl ?_
    | refine ⟨(rfl : plain _ = true), ?_⟩
    | refine ⟨(rfl : nilOk _ = some _), ?_⟩
    | refine ⟨_, ints_len (by assumption), ?_⟩
    | refine ⟨_, ints_addr (by assumption) (by omega) (by omega), ?_⟩
    | refine ⟨_, ints_load (by assumption) (by omega) (by omega), ?_⟩
    | refine ⟨(⟨by omega, by omega⟩ : inI64 _), ?_⟩
    | refine ⟨_, fun tm ha => step1_max rfl (ev_tmp ha rfl) (ev_tmp ha rfl), ?_⟩
    | refine ⟨_, fun tm ha => step1_min rfl (ev_tmp ha rfl) (ev_tmp ha rfl), ?_⟩
    | (refine ⟨fun _ => ?_, fun _ => ?_⟩ <;> first | (exfalso; omega) | skip)
    | fail
  refine (any_spec hb l2 hb2 (by omega) (by omega) (by omega)).mono ?_
  rintro r H3 ⟨⟨m, rfl, m0, m1⟩, hb3, x3⟩
  have kk3 : Keep H H3 := x3.keep kk2 hb
  have l3 := kk3.1
  have hk3 := own_box hk x3 hb2
  repeat' first
    | refine CO.cons rfl ?_
    | refine CO.nil ?_
    | refine CV.seq ?_
    | refine CV.region callees ?_
    | refine CV.cond ?_
    | refine CV.block ?_
    | refine CV.skip ?_
    | refine CV.exit ?_
    | refine CV.ret ?_
    | refine CV.scope ?_
    | refine CV.draw callees rfl ?_
    | refine CH.cons rfl ?_
    | refine CH.nil ?_
    | refine CO.consG rfl ?_
    | refine CH.consG rfl ?_
    | refine CG.cons rfl ?_
    | refine CR.cons ?_
    | refine CR.nil ?_
    | refine CG.nil ?_
    | refine CG.consG rfl ?_
    | refine ⟨(rfl : plain _ = true), ?_⟩
    | refine ⟨(rfl : nilOk _ = some _), ?_⟩
    | refine ⟨_, ints_len (by assumption), ?_⟩
    | refine ⟨_, ints_addr (by assumption) (by omega) (by omega), ?_⟩
    | refine ⟨_, ints_load (by assumption) (by omega) (by omega), ?_⟩
    | refine ⟨(⟨by omega, by omega⟩ : inI64 _), ?_⟩
    | refine ⟨_, fun tm ha => step1_max rfl (ev_tmp ha rfl) (ev_tmp ha rfl), ?_⟩
    | refine ⟨_, fun tm ha => step1_min rfl (ev_tmp ha rfl) (ev_tmp ha rfl), ?_⟩
    | (refine ⟨fun _ => ?_, fun _ => ?_⟩ <;> first | (exfalso; omega) | skip)
    | fail
  refine (partitionOf_spec hb l3 hb3 m0 (by omega)).mono ?_
  rintro p H4 ⟨⟨ts, ct, lt, hp⟩, hb4, x4⟩
  have kk4 : Keep H H4 := x4.keep kk3 hb
  have l4 := kk4.1
  have hk4 := own_box hk3 x4 hb3
  have c9 := check_len ct
  repeat' first
    | refine CO.cons rfl ?_
    | refine CO.nil ?_
    | refine CV.seq ?_
    | refine CV.region callees ?_
    | refine CV.cond ?_
    | refine CV.block ?_
    | refine CV.skip ?_
    | refine CV.exit ?_
    | refine CV.ret ?_
    | refine CV.scope ?_
    | refine CV.draw callees rfl ?_
    | refine CH.cons rfl ?_
    | refine CH.nil ?_
    | refine CO.consG rfl ?_
    | refine CH.consG rfl ?_
    | refine CG.cons rfl ?_
    | refine CR.cons ?_
    | refine CR.nil ?_
    | refine CG.nil ?_
    | refine CG.consG rfl ?_
    | refine ⟨(rfl : plain _ = true), ?_⟩
    | refine ⟨(rfl : nilOk _ = some _), ?_⟩
    | refine ⟨_, ints_len (by assumption), ?_⟩
    | refine ⟨_, ints_addr (by assumption) (by omega) (by omega), ?_⟩
    | refine ⟨_, ints_load (by assumption) (by omega) (by omega), ?_⟩
    | refine ⟨(⟨by omega, by omega⟩ : inI64 _), ?_⟩
    | refine ⟨_, fun tm ha => step1_max rfl (ev_tmp ha rfl) (ev_tmp ha rfl), ?_⟩
    | refine ⟨_, fun tm ha => step1_min rfl (ev_tmp ha rfl) (ev_tmp ha rfl), ?_⟩
    | (refine ⟨_, _, allocS, ?_⟩)
    | (refine ⟨fun _ => ?_, fun _ => ?_⟩ <;> first | (exfalso; omega) | skip)
    | fail
  generalize hs5 : H4.new (Sc 0 0 0 0 0 (.slice none 0 0)) = H5
  have hg5 := new_get hs5
  have k5 := new_keep hs5
  have n5 := new_n hs5
  obtain ⟨bs, hbs⟩ : ∃ bs, H4.n = bs := ⟨_, rfl⟩
  rw [hbs] at hg5 n5 ⊢
  refine ⟨_, _, storeS hk4.row.oneC.1 hg5, by omega, ?_⟩
  generalize hs6 : H5.set bs (Sc a c w n l k) = H6
  have hg6 := set_get hs6
  have n6 := set_n hs6
  have kk6 : Keep H H6 := keep_put (kk4.trans k5) (by omega) (set_old hs6) n6
  have l6 := kk6.1
  have x6 : KeepX bs H5 H6 := by rw [← hs6]; exact KeepX.set _ _
  have hb6 : Box b H6 := box_put (hb4.keep k5) (by have := hb4.1; omega) (set_old hs6) n6
  have hk6 := (hk4.keep k5).keepX x6 hg5
  have hp6 := (hp.keep k5).keepX x6 hg5
  have hb4n := hb4.1
  repeat' first
    | refine CO.cons rfl ?_
    | refine CO.nil ?_
    | refine CV.seq ?_
    | refine CV.region callees ?_
    | refine CV.cond ?_
    | refine CV.block ?_
    | refine CV.skip ?_
    | refine CV.exit ?_
    | refine CV.ret ?_
    | refine CV.scope ?_
    | refine CV.draw callees rfl ?_
    | refine CH.cons rfl ?_
    | refine CH.nil ?_
    | refine CO.consG rfl ?_
    | refine CH.consG rfl ?_
    | refine CG.cons rfl ?_
    | refine CR.cons ?_
    | refine CR.nil ?_
    | refine CG.nil ?_
    | refine CG.consG rfl ?_
    | refine ⟨(rfl : plain _ = true), ?_⟩
    | refine ⟨(rfl : nilOk _ = some _), ?_⟩
    | refine ⟨_, ints_len (by assumption), ?_⟩
    | refine ⟨_, ints_addr (by assumption) (by omega) (by omega), ?_⟩
    | refine ⟨_, ints_load (by assumption) (by omega) (by omega), ?_⟩
    | refine ⟨(⟨by omega, by omega⟩ : inI64 _), ?_⟩
    | refine ⟨_, fun tm ha => step1_max rfl (ev_tmp ha rfl) (ev_tmp ha rfl), ?_⟩
    | refine ⟨_, fun tm ha => step1_min rfl (ev_tmp ha rfl) (ev_tmp ha rfl), ?_⟩
    | (refine ⟨fun _ => ?_, fun _ => ?_⟩ <;> first | (exfalso; omega) | skip)
    | fail
  refine (up_spec hb l6 hb6 (by omega)).mono ?_
  rintro r H7 ⟨⟨g, rfl, g0, g1⟩, hb7, x7⟩
  have kk7 : Keep H H7 := x7.keep kk6 hb
  have l7 := kk7.1
  have l67 := x7.1
  have hk7 : Ints H7 k ks := row_box hk6.row x7 hb6
  have hp7 : Ints H7 p ts := row_box hp6.row x7 hb6
  have hg7 : H7.get bs = some (Sc a c w n l k) := by rw [x7.2 bs (by omega) (by omega)]; exact hg6
  repeat' first
    | refine CO.cons rfl ?_
    | refine CO.nil ?_
    | refine CV.seq ?_
    | refine CV.region callees ?_
    | refine CV.cond ?_
    | refine CV.block ?_
    | refine CV.skip ?_
    | refine CV.exit ?_
    | refine CV.ret ?_
    | refine CV.scope ?_
    | refine CV.draw callees rfl ?_
    | refine CH.cons rfl ?_
    | refine CH.nil ?_
    | refine CO.consG rfl ?_
    | refine CH.consG rfl ?_
    | refine CG.cons rfl ?_
    | refine CR.cons ?_
    | refine CR.nil ?_
    | refine CG.nil ?_
    | refine CG.consG rfl ?_
    | refine ⟨(rfl : plain _ = true), ?_⟩
    | refine ⟨(rfl : nilOk _ = some _), ?_⟩
    | refine ⟨_, ints_len (by assumption), ?_⟩
    | refine ⟨_, ints_addr (by assumption) (by omega) (by omega), ?_⟩
    | refine ⟨_, ints_load (by assumption) (by omega) (by omega), ?_⟩
    | refine ⟨(⟨by omega, by omega⟩ : inI64 _), ?_⟩
    | refine ⟨_, fun tm ha => step1_max rfl (ev_tmp ha rfl) (ev_tmp ha rfl), ?_⟩
    | refine ⟨_, fun tm ha => step1_min rfl (ev_tmp ha rfl) (ev_tmp ha rfl), ?_⟩
    | (refine ⟨fun _ => ?_, fun _ => ?_⟩ <;> first | (exfalso; omega) | skip)
    | fail
  refine CV.loopc ?_
  refine WCv.rounds callees false (α := Int × Value × List Value × List (List Int)) (fun (i, q, vals, ls) => [(3, bp b), (4, .pointer (some ⟨bs, 0, none⟩)), (5, p), (6, q), (7, .int .i64 i)]) (fun (i, q, vals, ls) Hz => (0 ≤ i ∧ (ls.length : Int) + i = g) ∧ OwnG Hz q vals ls H7.n ∧ Box b Hz ∧ KeepX b H7 Hz ∧ (∀ i : Nat, i < ls.length → ls[i]!.length = ts.length ∧ ∀ j, j < ls[i]!.length → okN ls[i]![j]! = true)) (fun (i, q, vals, ls) => i.toNat) (g, .slice none 0 0, [], []) (by repeat' first | exact trivial | refine ⟨rfl, ?_⟩ | refine ⟨slot_int (by (try simp only [Int.toNat_natCast]); omega), ?_⟩) ?_ ?_
  · exact ⟨⟨g0, by simp⟩, OwnG.nil, hb7, KeepX.refl _ _, fun i hi => by simp at hi⟩
  rintro ⟨i, q, vals, ls⟩ Hx ⟨⟨hi0, hig⟩, hq, hbx, hkx, hgd⟩ hBx
  by_cases hi : 0 < i
  · have hpx : Ints Hx p ts := row_box hp7 hkx hb7
    have hlx := hkx.1
    repeat' first
      | refine CO.cons rfl ?_
      | refine CO.nil ?_
      | refine CV.seq ?_
      | refine CV.region callees ?_
      | refine CV.cond ?_
      | refine CV.block ?_
      | refine CV.skip ?_
      | refine CV.exit ?_
      | refine CV.ret ?_
      | refine CV.scope ?_
      | refine CV.draw callees rfl ?_
      | refine CH.cons rfl ?_
      | refine CH.nil ?_
      | refine CO.consG rfl ?_
      | refine CH.consG rfl ?_
      | refine CG.cons rfl ?_
      | refine CR.cons ?_
      | refine CR.nil ?_
      | refine CG.nil ?_
      | refine CG.consG rfl ?_
      | refine ⟨(rfl : plain _ = true), ?_⟩
      | refine ⟨(rfl : nilOk _ = some _), ?_⟩
      | refine ⟨_, ints_len (by assumption), ?_⟩
      | refine ⟨_, ints_addr (by assumption) (by omega) (by omega), ?_⟩
      | refine ⟨_, ints_load (by assumption) (by omega) (by omega), ?_⟩
      | refine ⟨(⟨by omega, by omega⟩ : inI64 _), ?_⟩
      | refine ⟨_, fun tm ha => step1_max rfl (ev_tmp ha rfl) (ev_tmp ha rfl), ?_⟩
      | refine ⟨_, fun tm ha => step1_min rfl (ev_tmp ha rfl) (ev_tmp ha rfl), ?_⟩
      | (refine ⟨fun _ => ?_, fun _ => ?_⟩ <;> first | (exfalso; omega) | skip)
      | fail
    refine (answerOf_spec hb hBx hbx hpx (by omega) (fun i hi => check_bound ct hi)).mono ?_
    rintro u H8 ⟨⟨ws, lw, hok, hu⟩, hb8, x8⟩
    have hq8 := hq.box x8 hbx
    have l8 := x8.1
    repeat' first
      | refine CO.cons rfl ?_
      | refine CO.nil ?_
      | refine CV.seq ?_
      | refine CV.region callees ?_
      | refine CV.cond ?_
      | refine CV.block ?_
      | refine CV.skip ?_
      | refine CV.exit ?_
      | refine CV.ret ?_
      | refine CV.scope ?_
      | refine CV.draw callees rfl ?_
      | refine CH.cons rfl ?_
      | refine CH.nil ?_
      | refine CO.consG rfl ?_
      | refine CH.consG rfl ?_
      | refine CG.cons rfl ?_
      | refine CR.cons ?_
      | refine CR.nil ?_
      | refine CG.nil ?_
      | refine CG.consG rfl ?_
      | refine ⟨(rfl : plain _ = true), ?_⟩
      | refine ⟨(rfl : nilOk _ = some _), ?_⟩
      | refine ⟨_, ints_len (by assumption), ?_⟩
      | refine ⟨_, ints_addr (by assumption) (by omega) (by omega), ?_⟩
      | refine ⟨_, ints_load (by assumption) (by omega) (by omega), ?_⟩
      | refine ⟨(⟨by omega, by omega⟩ : inI64 _), ?_⟩
      | refine ⟨_, fun tm ha => step1_max rfl (ev_tmp ha rfl) (ev_tmp ha rfl), ?_⟩
      | refine ⟨_, fun tm ha => step1_min rfl (ev_tmp ha rfl) (ev_tmp ha rfl), ?_⟩
      | refine ⟨_, _, build_one un32 one22 (hu.row.oneC.1), ?_⟩
      | (refine ⟨fun _ => ?_, fun _ => ?_⟩ <;> first | (exfalso; omega) | skip)
      | fail
    refine gpush_ask (xs := ws) hq8 (by omega) (by omega) (hu.low (by omega)) (fun d hd hd2 => by have h1 := (hu.lt hd).1; have h2 := (hq.own.lt hd2).2; omega) (by omega) ?_
    intro q2 H9 hq9 kb9 _
    have lz : (ls ++ [ws]).length = ls.length + 1 := by simp
    repeat' first
      | refine CO.cons rfl ?_
      | refine CO.nil ?_
      | refine CV.seq ?_
      | refine CV.region callees ?_
      | refine CV.cond ?_
      | refine CV.block ?_
      | refine CV.skip ?_
      | refine CV.exit ?_
      | refine CV.ret ?_
      | refine CV.scope ?_
      | refine CV.draw callees rfl ?_
      | refine CH.cons rfl ?_
      | refine CH.nil ?_
      | refine CO.consG rfl ?_
      | refine CH.consG rfl ?_
      | refine CG.cons rfl ?_
      | refine CR.cons ?_
      | refine CR.nil ?_
      | refine CG.nil ?_
      | refine CG.consG rfl ?_
      | refine ⟨(rfl : plain _ = true), ?_⟩
      | refine ⟨(rfl : nilOk _ = some _), ?_⟩
      | refine ⟨_, ints_len (by assumption), ?_⟩
      | refine ⟨_, ints_addr (by assumption) (by omega) (by omega), ?_⟩
      | refine ⟨_, ints_load (by assumption) (by omega) (by omega), ?_⟩
      | refine ⟨(⟨by omega, by omega⟩ : inI64 _), ?_⟩
      | refine ⟨_, fun tm ha => step1_max rfl (ev_tmp ha rfl) (ev_tmp ha rfl), ?_⟩
      | refine ⟨_, fun tm ha => step1_min rfl (ev_tmp ha rfl) (ev_tmp ha rfl), ?_⟩
      | (refine ⟨fun _ => ?_, fun _ => ?_⟩ <;> first | (exfalso; omega) | skip)
      | fail
    refine ⟨(i - 1, q2, vals ++ [u], ls ++ [ws]), (by repeat' first | exact trivial | refine ⟨rfl, ?_⟩ | refine ⟨slot_int (by (try simp only [Int.toNat_natCast]); omega), ?_⟩), (by (try dsimp only); omega), ?_⟩
    exact ⟨by omega, hq9, hb8.keepBut kb9 (own_apartBox (H0 := H) hq8.own (by have := hb7.1; omega)), kb9.keepX (hkx.trans x8) (fun d hd => (hq8.own.lt hd).1), good_push hgd ⟨lw, hok⟩⟩
  have hi00 : i = 0 := by omega
  subst hi00
  have hGA : GoodA ts ls := ⟨by omega, hgd⟩
  have kkx : Keep H Hx := hkx.keep kk7 hb
  have hkx' : Ints Hx k ks := row_box hk7 hkx hb7
  have hpx : Ints Hx p ts := row_box hp7 hkx hb7
  have hgx : Hx.get bs = some (Sc a c w n l k) := by rw [hkx.2 bs (by omega) (by omega)]; exact hg7
  have hlx := hkx.1
  repeat' first
    | refine CO.cons rfl ?_
    | refine CO.nil ?_
    | refine CV.seq ?_
    | refine CV.region callees ?_
    | refine CV.cond ?_
    | refine CV.block ?_
    | refine CV.skip ?_
    | refine CV.exit ?_
    | refine CV.ret ?_
    | refine CV.scope ?_
    | refine CV.draw callees rfl ?_
    | refine CH.cons rfl ?_
    | refine CH.nil ?_
    | refine CO.consG rfl ?_
    | refine CH.consG rfl ?_
    | refine CG.cons rfl ?_
    | refine CR.cons ?_
    | refine CR.nil ?_
    | refine CG.nil ?_
    | refine CG.consG rfl ?_
    | refine ⟨(rfl : plain _ = true), ?_⟩
    | refine ⟨(rfl : nilOk _ = some _), ?_⟩
    | refine ⟨_, ints_len (by assumption), ?_⟩
    | refine ⟨_, ints_addr (by assumption) (by omega) (by omega), ?_⟩
    | refine ⟨_, ints_load (by assumption) (by omega) (by omega), ?_⟩
    | refine ⟨(⟨by omega, by omega⟩ : inI64 _), ?_⟩
    | refine ⟨_, fun tm ha => step1_max rfl (ev_tmp ha rfl) (ev_tmp ha rfl), ?_⟩
    | refine ⟨_, fun tm ha => step1_min rfl (ev_tmp ha rfl) (ev_tmp ha rfl), ?_⟩
    | (refine ⟨_, loadS hgx, ?_⟩)
    | (refine ⟨fun _ => ?_, fun _ => ?_⟩ <;> first | (exfalso; omega) | skip)
    | fail
  refine (sRank_spec hBx hkx' hval hpx ct hq.grid hGA).mono ?_
  rintro r Hr ⟨⟨xv, pv, xs, ps, rfl, lxs, hsc, hxv, lps, hps, hpv⟩, kr⟩
  have lr := kr.1
  have hqr := hq.keep kr
  have hqg : Grid Hr q vals ls := hqr.grid
  have hgr : Hr.get bs = some (Sc a c w n l k) := by rw [kr.2 bs (by omega)]; exact hgx
  have hkr : Ints Hr k ks := Row.keep hkx' kr
  have hbr := hbx.keep kr
  have hBr : H.n ≤ Hr.n := by omega
  have hgl := hGA.len
  have hvl := hval.len
  repeat' first
    | refine CO.cons rfl ?_
    | refine CO.nil ?_
    | refine CV.seq ?_
    | refine CV.region callees ?_
    | refine CV.cond ?_
    | refine CV.block ?_
    | refine CV.skip ?_
    | refine CV.exit ?_
    | refine CV.ret ?_
    | refine CV.scope ?_
    | refine CV.draw callees rfl ?_
    | refine CH.cons rfl ?_
    | refine CH.nil ?_
    | refine CO.consG rfl ?_
    | refine CH.consG rfl ?_
    | refine CG.cons rfl ?_
    | refine CR.cons ?_
    | refine CR.nil ?_
    | refine CG.nil ?_
    | refine CG.consG rfl ?_
    | refine ⟨(rfl : plain _ = true), ?_⟩
    | refine ⟨(rfl : nilOk _ = some _), ?_⟩
    | refine ⟨_, ints_len (by assumption), ?_⟩
    | refine ⟨_, ints_addr (by assumption) (by omega) (by omega), ?_⟩
    | refine ⟨_, ints_load (by assumption) (by omega) (by omega), ?_⟩
    | refine ⟨(⟨by omega, by omega⟩ : inI64 _), ?_⟩
    | refine ⟨_, fun tm ha => step1_max rfl (ev_tmp ha rfl) (ev_tmp ha rfl), ?_⟩
    | refine ⟨_, fun tm ha => step1_min rfl (ev_tmp ha rfl) (ev_tmp ha rfl), ?_⟩
    | refine ⟨_, scrs_len hxv, ?_⟩
    | refine ⟨_, hqg.alen, ?_⟩
    | (refine ⟨fun _ => ?_, fun _ => ?_⟩ <;> first | (exfalso; omega) | skip)
    | fail
  refine CV.loopc ?_
  refine WCv.rounds callees false (α := Nat) (fun i => [(3, bp b), (4, .pointer (some ⟨bs, 0, none⟩)), (5, p), (6, q), (8, xv), (9, pv), (11, .int .i64 i)]) (fun i Hz => i ≤ ls.length ∧ Keep Hr Hz) (fun i => ls.length - i) (0) (by repeat' first | exact trivial | refine ⟨rfl, ?_⟩ | refine ⟨slot_int (by (try simp only [Int.toNat_natCast]); omega), ?_⟩) ?_ ?_
  · exact ⟨by omega, Keep.refl _⟩
  rintro i Hy ⟨hi, ky⟩ hBy
  have lky := ky.1
  have hqy := hqr.keep ky
  have hqgy : Grid Hy q vals ls := hqy.grid
  have hxy : Scrs Hy xv xs := RowS.keep hxv ky
  have hpy : Ints Hy pv ps := Row.keep hpv ky
  have hgy : Hy.get bs = some (Sc a c w n l k) := by rw [ky.2 bs (by omega)]; exact hgr
  have hky : Ints Hy k ks := Row.keep hkr ky
  by_cases hi2 : i < ls.length
  · have epi : ps[(i : Int).toNat]! = (Pl ks xs i : Int) := hps i hi2
    have bpi := plN_bound ks (fun j => amt xs[j]! j) xs.length i
    repeat' first
      | refine CO.cons rfl ?_
      | refine CO.nil ?_
      | refine CV.seq ?_
      | refine CV.region callees ?_
      | refine CV.cond ?_
      | refine CV.block ?_
      | refine CV.skip ?_
      | refine CV.exit ?_
      | refine CV.ret ?_
      | refine CV.scope ?_
      | refine CV.draw callees rfl ?_
      | refine CH.cons rfl ?_
      | refine CH.nil ?_
      | refine CO.consG rfl ?_
      | refine CH.consG rfl ?_
      | refine CG.cons rfl ?_
      | refine CR.cons ?_
      | refine CR.nil ?_
      | refine CG.nil ?_
      | refine CG.consG rfl ?_
      | refine ⟨(rfl : plain _ = true), ?_⟩
      | refine ⟨(rfl : nilOk _ = some _), ?_⟩
      | refine ⟨_, ints_len (by assumption), ?_⟩
      | refine ⟨_, ints_addr (by assumption) (by omega) (by omega), ?_⟩
      | refine ⟨_, ints_load (by assumption) (by omega) (by omega), ?_⟩
      | refine ⟨(⟨by omega, by omega⟩ : inI64 _), ?_⟩
      | refine ⟨_, fun tm ha => step1_max rfl (ev_tmp ha rfl) (ev_tmp ha rfl), ?_⟩
      | refine ⟨_, fun tm ha => step1_min rfl (ev_tmp ha rfl) (ev_tmp ha rfl), ?_⟩
      | refine ⟨_, hqgy.alen, ?_⟩
      | (refine ⟨fun _ => ?_, fun _ => ?_⟩ <;> first | (exfalso; omega) | skip)
      | fail
    refine CV.loopc ?_
    refine WCv.rounds callees false (α := Nat × Nat) (fun (m, less) => [(3, bp b), (4, .pointer (some ⟨bs, 0, none⟩)), (5, p), (6, q), (8, xv), (9, pv), (11, .int .i64 i), (12, .int .i64 less), (13, .int .i64 m)]) (fun (m, less) Hz => m ≤ ls.length ∧ Keep Hy Hz ∧ less = cntN (fun t => decide (Pl ks xs t < Pl ks xs i)) m) (fun (m, less) => ls.length - m) (0, 0) (by repeat' first | exact trivial | refine ⟨rfl, ?_⟩ | refine ⟨slot_int (by (try simp only [Int.toNat_natCast]); omega), ?_⟩) ?_ ?_
    · exact ⟨by omega, Keep.refl _, rfl⟩
    rintro ⟨m, less⟩ Hz1 ⟨hm, kz, hless⟩ hBz
    have lkz := kz.1
    have hqz := hqy.keep kz
    have hqgz : Grid Hz1 q vals ls := hqz.grid
    have hxz : Scrs Hz1 xv xs := RowS.keep hxy kz
    have hpz : Ints Hz1 pv ps := Row.keep hpy kz
    have hgz : Hz1.get bs = some (Sc a c w n l k) := by rw [kz.2 bs (by omega)]; exact hgy
    have hkz : Ints Hz1 k ks := Row.keep hky kz
    have hle := cntN_le (fun t => decide (Pl ks xs t < Pl ks xs i)) m
    by_cases hm2 : m < ls.length
    · have epm : ps[(m : Int).toNat]! = (Pl ks xs m : Int) := hps m hm2
      have hcn : cntN (fun t => decide (Pl ks xs t < Pl ks xs i)) (m + 1) = cntN (fun t => decide (Pl ks xs t < Pl ks xs i)) m + (if Pl ks xs m < Pl ks xs i then 1 else 0) := by
        rw [cntN]; simp only [decide_eq_true_eq]
      repeat' first
        | refine CO.cons rfl ?_
        | refine CO.nil ?_
        | refine CV.seq ?_
        | refine CV.region callees ?_
        | refine CV.cond ?_
        | refine CV.block ?_
        | refine CV.skip ?_
        | refine CV.exit ?_
        | refine CV.ret ?_
        | refine CV.scope ?_
        | refine CV.draw callees rfl ?_
        | refine CH.cons rfl ?_
        | refine CH.nil ?_
        | refine CO.consG rfl ?_
        | refine CH.consG rfl ?_
        | refine CG.cons rfl ?_
        | refine CR.cons ?_
        | refine CR.nil ?_
        | refine CG.nil ?_
        | refine CG.consG rfl ?_
        | refine ⟨(rfl : plain _ = true), ?_⟩
        | refine ⟨(rfl : nilOk _ = some _), ?_⟩
        | refine ⟨_, ints_len (by assumption), ?_⟩
        | refine ⟨_, ints_addr (by assumption) (by omega) (by omega), ?_⟩
        | refine ⟨_, ints_load (by assumption) (by omega) (by omega), ?_⟩
        | refine ⟨(⟨by omega, by omega⟩ : inI64 _), ?_⟩
        | refine ⟨_, fun tm ha => step1_max rfl (ev_tmp ha rfl) (ev_tmp ha rfl), ?_⟩
        | refine ⟨_, fun tm ha => step1_min rfl (ev_tmp ha rfl) (ev_tmp ha rfl), ?_⟩
        | refine ⟨_, hqgz.alen, ?_⟩
        | (refine ⟨fun _ => ?_, fun _ => ?_⟩ <;> first | (exfalso; omega) | skip)
        | fail
      · refine CV.loopc ?_
        refine WCv.rounds callees false (α := Nat) (fun j => [(3, bp b), (4, .pointer (some ⟨bs, 0, none⟩)), (5, p), (6, q), (8, xv), (9, pv), (11, .int .i64 i), (12, .int .i64 (less + 1 : Nat)), (13, .int .i64 m), (14, .int .i64 j)]) (fun j Hz => j ≤ ks.length ∧ Keep Hz1 Hz) (fun j => ks.length - j) (0) (by repeat' first | exact trivial | refine ⟨rfl, ?_⟩ | refine ⟨slot_int (by (try simp only [Int.toNat_natCast]); omega), ?_⟩) ?_ ?_
        · exact ⟨by omega, Keep.refl _⟩
        rintro j Hq1 ⟨hj, kq⟩ hBq
        have lkq := kq.1
        have hxq : Scrs Hq1 xv xs := RowS.keep hxz kq
        have hpq : Ints Hq1 pv ps := Row.keep hpz kq
        have hgq : Hq1.get bs = some (Sc a c w n l k) := by rw [kq.2 bs (by omega)]; exact hgz
        have hkq : Ints Hq1 k ks := Row.keep hkz kq
        by_cases hj2 : j < ks.length
        · have hkj := hval.keys j hj2
          have hkj2 : ks[(j : Int).toNat]! = ks[j]! := rfl
          by_cases hpe : Pl ks xs m = Pl ks xs i
          · exact absurd hpe (by omega)
          · repeat' first
              | refine CO.cons rfl ?_
              | refine CO.nil ?_
              | refine CV.seq ?_
              | refine CV.region callees ?_
              | refine CV.cond ?_
              | refine CV.block ?_
              | refine CV.skip ?_
              | refine CV.exit ?_
              | refine CV.ret ?_
              | refine CV.scope ?_
              | refine CV.draw callees rfl ?_
              | refine CH.cons rfl ?_
              | refine CH.nil ?_
              | refine CO.consG rfl ?_
              | refine CH.consG rfl ?_
              | refine CG.cons rfl ?_
              | refine CR.cons ?_
              | refine CR.nil ?_
              | refine CG.nil ?_
              | refine CG.consG rfl ?_
              | refine ⟨(rfl : plain _ = true), ?_⟩
              | refine ⟨(rfl : nilOk _ = some _), ?_⟩
              | refine ⟨_, ints_len (by assumption), ?_⟩
              | refine ⟨_, ints_addr (by assumption) (by omega) (by omega), ?_⟩
              | refine ⟨_, ints_load (by assumption) (by omega) (by omega), ?_⟩
              | refine ⟨(⟨by omega, by omega⟩ : inI64 _), ?_⟩
              | refine ⟨_, fun tm ha => step1_max rfl (ev_tmp ha rfl) (ev_tmp ha rfl), ?_⟩
              | refine ⟨_, fun tm ha => step1_min rfl (ev_tmp ha rfl) (ev_tmp ha rfl), ?_⟩
              | refine CV.wide callees rfl [0, 1, 2, 3, 4, 5, 6, 7, 8, 9, 10, 11, 12, 13, 14, 15, 16, 17, 18, 19, 21, 22, 23, 24, 25, 26, 27, 28, 29, 30, 20, 31, 32, 33] (by kernel_rfl) ?_
              | (refine ⟨_, addrS (by decide), ?_⟩)
              | (refine ⟨_, cell_load ag22 hgq rfl, ?_⟩)
              | refine ⟨_, scrs_addr hxq (by omega) (by omega), ?_⟩
              | refine ⟨_, scrs_load hxq (by omega) (by omega), ?_⟩
              | (refine ⟨fun _ => ?_, fun _ => ?_⟩ <;> first | (exfalso; omega) | skip)
              | fail
            refine ⟨(j + 1), (by repeat' first | exact trivial | refine ⟨rfl, ?_⟩ | refine ⟨slot_int (by (try simp only [Int.toNat_natCast]); omega), ?_⟩), (by (try dsimp only); omega), ?_⟩
            exact ⟨by omega, kq⟩
        · repeat' first
            | refine CO.cons rfl ?_
            | refine CO.nil ?_
            | refine CV.seq ?_
            | refine CV.region callees ?_
            | refine CV.cond ?_
            | refine CV.block ?_
            | refine CV.skip ?_
            | refine CV.exit ?_
            | refine CV.ret ?_
            | refine CV.scope ?_
            | refine CV.draw callees rfl ?_
            | refine CH.cons rfl ?_
            | refine CH.nil ?_
            | refine CO.consG rfl ?_
            | refine CH.consG rfl ?_
            | refine CG.cons rfl ?_
            | refine CR.cons ?_
            | refine CR.nil ?_
            | refine CG.nil ?_
            | refine CG.consG rfl ?_
            | refine ⟨(rfl : plain _ = true), ?_⟩
            | refine ⟨(rfl : nilOk _ = some _), ?_⟩
            | refine ⟨_, ints_len (by assumption), ?_⟩
            | refine ⟨_, ints_addr (by assumption) (by omega) (by omega), ?_⟩
            | refine ⟨_, ints_load (by assumption) (by omega) (by omega), ?_⟩
            | refine ⟨(⟨by omega, by omega⟩ : inI64 _), ?_⟩
            | refine ⟨_, fun tm ha => step1_max rfl (ev_tmp ha rfl) (ev_tmp ha rfl), ?_⟩
            | refine ⟨_, fun tm ha => step1_min rfl (ev_tmp ha rfl) (ev_tmp ha rfl), ?_⟩
            | (refine ⟨_, addrS (by decide), ?_⟩)
            | (refine ⟨_, cell_load ag22 hgq rfl, ?_⟩)
            | (refine ⟨fun _ => ?_, fun _ => ?_⟩ <;> first | (exfalso; omega) | skip)
            | fail
          refine ⟨(m + 1, less + 1), (by repeat' first | exact trivial | refine ⟨rfl, ?_⟩ | refine ⟨slot_int (by (try simp only [Int.toNat_natCast]); omega), ?_⟩), (by (try dsimp only); omega), ?_⟩
          exact ⟨by omega, kz.trans kq, by split at hcn <;> omega⟩
      · refine CV.loopc ?_
        refine WCv.rounds callees false (α := Nat) (fun j => [(3, bp b), (4, .pointer (some ⟨bs, 0, none⟩)), (5, p), (6, q), (8, xv), (9, pv), (11, .int .i64 i), (12, .int .i64 (less : Nat)), (13, .int .i64 m), (14, .int .i64 j)]) (fun j Hz => j ≤ ks.length ∧ Keep Hz1 Hz) (fun j => ks.length - j) (0) (by repeat' first | exact trivial | refine ⟨rfl, ?_⟩ | refine ⟨slot_int (by (try simp only [Int.toNat_natCast]); omega), ?_⟩) ?_ ?_
        · exact ⟨by omega, Keep.refl _⟩
        rintro j Hq1 ⟨hj, kq⟩ hBq
        have lkq := kq.1
        have hxq : Scrs Hq1 xv xs := RowS.keep hxz kq
        have hpq : Ints Hq1 pv ps := Row.keep hpz kq
        have hgq : Hq1.get bs = some (Sc a c w n l k) := by rw [kq.2 bs (by omega)]; exact hgz
        have hkq : Ints Hq1 k ks := Row.keep hkz kq
        by_cases hj2 : j < ks.length
        · have hkj := hval.keys j hj2
          have hkj2 : ks[(j : Int).toNat]! = ks[j]! := rfl
          by_cases hpe : Pl ks xs m = Pl ks xs i
          · have hsame : amt xs[m]! m ks[j]! = amt xs[i]! i ks[j]! := pl_same (F := fun j => amt xs[j]! j) (n := xs.length) (i := i) (k := m) (by omega) (by omega) hpe _ (by rw [getElem!_pos ks j hj2]; exact List.getElem_mem hj2)
            repeat' first
              | refine CO.cons rfl ?_
              | refine CO.nil ?_
              | refine CV.seq ?_
              | refine CV.region callees ?_
              | refine CV.cond ?_
              | refine CV.block ?_
              | refine CV.skip ?_
              | refine CV.exit ?_
              | refine CV.ret ?_
              | refine CV.scope ?_
              | refine CV.draw callees rfl ?_
              | refine CH.cons rfl ?_
              | refine CH.nil ?_
              | refine CO.consG rfl ?_
              | refine CH.consG rfl ?_
              | refine CG.cons rfl ?_
              | refine CR.cons ?_
              | refine CR.nil ?_
              | refine CG.nil ?_
              | refine CG.consG rfl ?_
              | refine ⟨(rfl : plain _ = true), ?_⟩
              | refine ⟨(rfl : nilOk _ = some _), ?_⟩
              | refine ⟨_, ints_len (by assumption), ?_⟩
              | refine ⟨_, ints_addr (by assumption) (by omega) (by omega), ?_⟩
              | refine ⟨_, ints_load (by assumption) (by omega) (by omega), ?_⟩
              | refine ⟨(⟨by omega, by omega⟩ : inI64 _), ?_⟩
              | refine ⟨_, fun tm ha => step1_max rfl (ev_tmp ha rfl) (ev_tmp ha rfl), ?_⟩
              | refine ⟨_, fun tm ha => step1_min rfl (ev_tmp ha rfl) (ev_tmp ha rfl), ?_⟩
              | refine CV.wide callees rfl [0, 1, 2, 3, 4, 5, 6, 7, 8, 9, 10, 11, 12, 13, 14, 15, 16, 17, 18, 19, 21, 22, 23, 24, 25, 26, 27, 28, 29, 30, 20, 31, 32, 33] (by kernel_rfl) ?_
              | (refine ⟨_, addrS (by decide), ?_⟩)
              | (refine ⟨_, cell_load ag22 hgq rfl, ?_⟩)
              | refine ⟨_, scrs_addr hxq (by omega) (by omega), ?_⟩
              | refine ⟨_, scrs_load hxq (by omega) (by omega), ?_⟩
              | (refine ⟨fun _ => ?_, fun _ => ?_⟩ <;> first | (exfalso; omega) | skip)
              | fail
            refine (worth_spec (x := xs[m]!) (Nat.le_refl _) hkj (by omega) (by omega)).mono ?_
            rintro r H1 ⟨rfl, k1⟩
            repeat' first
              | refine CO.cons rfl ?_
              | refine CO.nil ?_
              | refine CV.seq ?_
              | refine CV.region callees ?_
              | refine CV.cond ?_
              | refine CV.block ?_
              | refine CV.skip ?_
              | refine CV.exit ?_
              | refine CV.ret ?_
              | refine CV.scope ?_
              | refine CV.draw callees rfl ?_
              | refine CH.cons rfl ?_
              | refine CH.nil ?_
              | refine CO.consG rfl ?_
              | refine CH.consG rfl ?_
              | refine CG.cons rfl ?_
              | refine CR.cons ?_
              | refine CR.nil ?_
              | refine CG.nil ?_
              | refine CG.consG rfl ?_
              | refine ⟨(rfl : plain _ = true), ?_⟩
              | refine ⟨(rfl : nilOk _ = some _), ?_⟩
              | refine ⟨_, ints_len (by assumption), ?_⟩
              | refine ⟨_, ints_addr (by assumption) (by omega) (by omega), ?_⟩
              | refine ⟨_, ints_load (by assumption) (by omega) (by omega), ?_⟩
              | refine ⟨(⟨by omega, by omega⟩ : inI64 _), ?_⟩
              | refine ⟨_, fun tm ha => step1_max rfl (ev_tmp ha rfl) (ev_tmp ha rfl), ?_⟩
              | refine ⟨_, fun tm ha => step1_min rfl (ev_tmp ha rfl) (ev_tmp ha rfl), ?_⟩
              | (refine ⟨fun _ => ?_, fun _ => ?_⟩ <;> first | (exfalso; omega) | skip)
              | fail
            refine (worth_spec (x := xs[i]!) (Nat.le_refl _) hkj (by omega) (by omega)).mono ?_
            rintro r H2 ⟨rfl, k2⟩
            repeat' first
              | refine CO.cons rfl ?_
              | refine CO.nil ?_
              | refine CV.seq ?_
              | refine CV.region callees ?_
              | refine CV.cond ?_
              | refine CV.block ?_
              | refine CV.skip ?_
              | refine CV.exit ?_
              | refine CV.ret ?_
              | refine CV.scope ?_
              | refine CV.draw callees rfl ?_
              | refine CH.cons rfl ?_
              | refine CH.nil ?_
              | refine CO.consG rfl ?_
              | refine CH.consG rfl ?_
              | refine CG.cons rfl ?_
              | refine CR.cons ?_
              | refine CR.nil ?_
              | refine CG.nil ?_
              | refine CG.consG rfl ?_
              | refine ⟨(rfl : plain _ = true), ?_⟩
              | refine ⟨(rfl : nilOk _ = some _), ?_⟩
              | refine ⟨_, ints_len (by assumption), ?_⟩
              | refine ⟨_, ints_addr (by assumption) (by omega) (by omega), ?_⟩
              | refine ⟨_, ints_load (by assumption) (by omega) (by omega), ?_⟩
              | refine ⟨(⟨by omega, by omega⟩ : inI64 _), ?_⟩
              | refine ⟨_, fun tm ha => step1_max rfl (ev_tmp ha rfl) (ev_tmp ha rfl), ?_⟩
              | refine ⟨_, fun tm ha => step1_min rfl (ev_tmp ha rfl) (ev_tmp ha rfl), ?_⟩
              | (refine ⟨fun _ => ?_, fun _ => ?_⟩ <;> first | (exfalso; omega) | skip)
              | fail
            refine ⟨(j + 1), (by repeat' first | exact trivial | refine ⟨rfl, ?_⟩ | refine ⟨slot_int (by (try simp only [Int.toNat_natCast]); omega), ?_⟩), (by (try dsimp only); omega), ?_⟩
            exact ⟨by omega, (kq.trans k1).trans k2⟩
          · repeat' first
              | refine CO.cons rfl ?_
              | refine CO.nil ?_
              | refine CV.seq ?_
              | refine CV.region callees ?_
              | refine CV.cond ?_
              | refine CV.block ?_
              | refine CV.skip ?_
              | refine CV.exit ?_
              | refine CV.ret ?_
              | refine CV.scope ?_
              | refine CV.draw callees rfl ?_
              | refine CH.cons rfl ?_
              | refine CH.nil ?_
              | refine CO.consG rfl ?_
              | refine CH.consG rfl ?_
              | refine CG.cons rfl ?_
              | refine CR.cons ?_
              | refine CR.nil ?_
              | refine CG.nil ?_
              | refine CG.consG rfl ?_
              | refine ⟨(rfl : plain _ = true), ?_⟩
              | refine ⟨(rfl : nilOk _ = some _), ?_⟩
              | refine ⟨_, ints_len (by assumption), ?_⟩
              | refine ⟨_, ints_addr (by assumption) (by omega) (by omega), ?_⟩
              | refine ⟨_, ints_load (by assumption) (by omega) (by omega), ?_⟩
              | refine ⟨(⟨by omega, by omega⟩ : inI64 _), ?_⟩
              | refine ⟨_, fun tm ha => step1_max rfl (ev_tmp ha rfl) (ev_tmp ha rfl), ?_⟩
              | refine ⟨_, fun tm ha => step1_min rfl (ev_tmp ha rfl) (ev_tmp ha rfl), ?_⟩
              | refine CV.wide callees rfl [0, 1, 2, 3, 4, 5, 6, 7, 8, 9, 10, 11, 12, 13, 14, 15, 16, 17, 18, 19, 21, 22, 23, 24, 25, 26, 27, 28, 29, 30, 20, 31, 32, 33] (by kernel_rfl) ?_
              | (refine ⟨_, addrS (by decide), ?_⟩)
              | (refine ⟨_, cell_load ag22 hgq rfl, ?_⟩)
              | refine ⟨_, scrs_addr hxq (by omega) (by omega), ?_⟩
              | refine ⟨_, scrs_load hxq (by omega) (by omega), ?_⟩
              | (refine ⟨fun _ => ?_, fun _ => ?_⟩ <;> first | (exfalso; omega) | skip)
              | fail
            refine ⟨(j + 1), (by repeat' first | exact trivial | refine ⟨rfl, ?_⟩ | refine ⟨slot_int (by (try simp only [Int.toNat_natCast]); omega), ?_⟩), (by (try dsimp only); omega), ?_⟩
            exact ⟨by omega, kq⟩
        · repeat' first
            | refine CO.cons rfl ?_
            | refine CO.nil ?_
            | refine CV.seq ?_
            | refine CV.region callees ?_
            | refine CV.cond ?_
            | refine CV.block ?_
            | refine CV.skip ?_
            | refine CV.exit ?_
            | refine CV.ret ?_
            | refine CV.scope ?_
            | refine CV.draw callees rfl ?_
            | refine CH.cons rfl ?_
            | refine CH.nil ?_
            | refine CO.consG rfl ?_
            | refine CH.consG rfl ?_
            | refine CG.cons rfl ?_
            | refine CR.cons ?_
            | refine CR.nil ?_
            | refine CG.nil ?_
            | refine CG.consG rfl ?_
            | refine ⟨(rfl : plain _ = true), ?_⟩
            | refine ⟨(rfl : nilOk _ = some _), ?_⟩
            | refine ⟨_, ints_len (by assumption), ?_⟩
            | refine ⟨_, ints_addr (by assumption) (by omega) (by omega), ?_⟩
            | refine ⟨_, ints_load (by assumption) (by omega) (by omega), ?_⟩
            | refine ⟨(⟨by omega, by omega⟩ : inI64 _), ?_⟩
            | refine ⟨_, fun tm ha => step1_max rfl (ev_tmp ha rfl) (ev_tmp ha rfl), ?_⟩
            | refine ⟨_, fun tm ha => step1_min rfl (ev_tmp ha rfl) (ev_tmp ha rfl), ?_⟩
            | (refine ⟨_, addrS (by decide), ?_⟩)
            | (refine ⟨_, cell_load ag22 hgq rfl, ?_⟩)
            | (refine ⟨fun _ => ?_, fun _ => ?_⟩ <;> first | (exfalso; omega) | skip)
            | fail
          refine ⟨(m + 1, less), (by repeat' first | exact trivial | refine ⟨rfl, ?_⟩ | refine ⟨slot_int (by (try simp only [Int.toNat_natCast]); omega), ?_⟩), (by (try dsimp only); omega), ?_⟩
          exact ⟨by omega, kz.trans kq, by split at hcn <;> omega⟩
    · have hml : m = ls.length := by omega
      subst hml
      have plc : cntN (fun t => decide (Pl ks xs t < Pl ks xs i)) xs.length + 1 = Pl ks xs i := pl_count (by omega)
      rw [lxs] at plc
      repeat' first
        | refine CO.cons rfl ?_
        | refine CO.nil ?_
        | refine CV.seq ?_
        | refine CV.region callees ?_
        | refine CV.cond ?_
        | refine CV.block ?_
        | refine CV.skip ?_
        | refine CV.exit ?_
        | refine CV.ret ?_
        | refine CV.scope ?_
        | refine CV.draw callees rfl ?_
        | refine CH.cons rfl ?_
        | refine CH.nil ?_
        | refine CO.consG rfl ?_
        | refine CH.consG rfl ?_
        | refine CG.cons rfl ?_
        | refine CR.cons ?_
        | refine CR.nil ?_
        | refine CG.nil ?_
        | refine CG.consG rfl ?_
        | refine ⟨(rfl : plain _ = true), ?_⟩
        | refine ⟨(rfl : nilOk _ = some _), ?_⟩
        | refine ⟨_, ints_len (by assumption), ?_⟩
        | refine ⟨_, ints_addr (by assumption) (by omega) (by omega), ?_⟩
        | refine ⟨_, ints_load (by assumption) (by omega) (by omega), ?_⟩
        | refine ⟨(⟨by omega, by omega⟩ : inI64 _), ?_⟩
        | refine ⟨_, fun tm ha => step1_max rfl (ev_tmp ha rfl) (ev_tmp ha rfl), ?_⟩
        | refine ⟨_, fun tm ha => step1_min rfl (ev_tmp ha rfl) (ev_tmp ha rfl), ?_⟩
        | refine ⟨_, hqgz.alen, ?_⟩
        | (refine ⟨fun _ => ?_, fun _ => ?_⟩ <;> first | (exfalso; omega) | skip)
        | fail
      refine ⟨(i + 1), (by repeat' first | exact trivial | refine ⟨rfl, ?_⟩ | refine ⟨slot_int (by (try simp only [Int.toNat_natCast]); omega), ?_⟩), (by (try dsimp only); omega), ?_⟩
      exact ⟨by omega, ky.trans kz⟩
  have hil : i = ls.length := by omega
  subst hil
  have hby := hbr.keep ky
  repeat' first
    | refine CO.cons rfl ?_
    | refine CO.nil ?_
    | refine CV.seq ?_
    | refine CV.region callees ?_
    | refine CV.cond ?_
    | refine CV.block ?_
    | refine CV.skip ?_
    | refine CV.exit ?_
    | refine CV.ret ?_
    | refine CV.scope ?_
    | refine CV.draw callees rfl ?_
    | refine CH.cons rfl ?_
    | refine CH.nil ?_
    | refine CO.consG rfl ?_
    | refine CH.consG rfl ?_
    | refine CG.cons rfl ?_
    | refine CR.cons ?_
    | refine CR.nil ?_
    | refine CG.nil ?_
    | refine CG.consG rfl ?_
    | refine ⟨(rfl : plain _ = true), ?_⟩
    | refine ⟨(rfl : nilOk _ = some _), ?_⟩
    | refine ⟨_, ints_len (by assumption), ?_⟩
    | refine ⟨_, ints_addr (by assumption) (by omega) (by omega), ?_⟩
    | refine ⟨_, ints_load (by assumption) (by omega) (by omega), ?_⟩
    | refine ⟨(⟨by omega, by omega⟩ : inI64 _), ?_⟩
    | refine ⟨_, fun tm ha => step1_max rfl (ev_tmp ha rfl) (ev_tmp ha rfl), ?_⟩
    | refine ⟨_, fun tm ha => step1_min rfl (ev_tmp ha rfl) (ev_tmp ha rfl), ?_⟩
    | refine ⟨_, hqgy.alen, ?_⟩
    | (refine ⟨_, addrS (by decide), ?_⟩)
    | (refine ⟨_, cell_load ag22 hgy rfl, ?_⟩)
    | (refine ⟨fun _ => ?_, fun _ => ?_⟩ <;> first | (exfalso; omega) | skip)
    | fail
  refine (has_spec hBy hky (by omega)).mono ?_
  rintro r Hs ⟨rfl, rfl⟩
  by_cases h6 : (6 : Int) ∈ ks
  · rw [decide_eq_true h6]
    repeat' first
      | refine CO.cons rfl ?_
      | refine CO.nil ?_
      | refine CV.seq ?_
      | refine CV.region callees ?_
      | refine CV.cond ?_
      | refine CV.block ?_
      | refine CV.skip ?_
      | refine CV.exit ?_
      | refine CV.ret ?_
      | refine CV.scope ?_
      | refine CV.draw callees rfl ?_
      | refine CH.cons rfl ?_
      | refine CH.nil ?_
      | refine CO.consG rfl ?_
      | refine CH.consG rfl ?_
      | refine CG.cons rfl ?_
      | refine CR.cons ?_
      | refine CR.nil ?_
      | refine CG.nil ?_
      | refine CG.consG rfl ?_
      | refine ⟨(rfl : plain _ = true), ?_⟩
      | refine ⟨(rfl : nilOk _ = some _), ?_⟩
      | refine ⟨_, ints_len (by assumption), ?_⟩
      | refine ⟨_, ints_addr (by assumption) (by omega) (by omega), ?_⟩
      | refine ⟨_, ints_load (by assumption) (by omega) (by omega), ?_⟩
      | refine ⟨(⟨by omega, by omega⟩ : inI64 _), ?_⟩
      | refine ⟨_, fun tm ha => step1_max rfl (ev_tmp ha rfl) (ev_tmp ha rfl), ?_⟩
      | refine ⟨_, fun tm ha => step1_min rfl (ev_tmp ha rfl) (ev_tmp ha rfl), ?_⟩
      | refine CallB.known rfl (base_any _) hBy ?_
      | (refine ⟨fun _ => ?_, fun _ => ?_⟩ <;> first | (exfalso; omega) | skip)
      | fail
    exact ⟨rfl, rfl⟩
  rw [decide_eq_false h6]
  repeat' first
    | refine CO.cons rfl ?_
    | refine CO.nil ?_
    | refine CV.seq ?_
    | refine CV.region callees ?_
    | refine CV.cond ?_
    | refine CV.block ?_
    | refine CV.skip ?_
    | refine CV.exit ?_
    | refine CV.ret ?_
    | refine CV.scope ?_
    | refine CV.draw callees rfl ?_
    | refine CH.cons rfl ?_
    | refine CH.nil ?_
    | refine CO.consG rfl ?_
    | refine CH.consG rfl ?_
    | refine CG.cons rfl ?_
    | refine CR.cons ?_
    | refine CR.nil ?_
    | refine CG.nil ?_
    | refine CG.consG rfl ?_
    | refine ⟨(rfl : plain _ = true), ?_⟩
    | refine ⟨(rfl : nilOk _ = some _), ?_⟩
    | refine ⟨_, ints_len (by assumption), ?_⟩
    | refine ⟨_, ints_addr (by assumption) (by omega) (by omega), ?_⟩
    | refine ⟨_, ints_load (by assumption) (by omega) (by omega), ?_⟩
    | refine ⟨(⟨by omega, by omega⟩ : inI64 _), ?_⟩
    | refine ⟨_, fun tm ha => step1_max rfl (ev_tmp ha rfl) (ev_tmp ha rfl), ?_⟩
    | refine ⟨_, fun tm ha => step1_min rfl (ev_tmp ha rfl) (ev_tmp ha rfl), ?_⟩
    | refine ⟨_, hqgy.alen, ?_⟩
    | (refine ⟨fun _ => ?_, fun _ => ?_⟩ <;> first | (exfalso; omega) | skip)
    | fail
  refine (order_spec (n := ls.length) hb hBy hby (by omega)).mono ?_
  rintro o Ht ⟨⟨os, hos, lo, ho⟩, hbt, xt⟩
  have lt' := xt.1
  have hqt : OwnG Ht q vals ls H7.n := hqy.box xt hby
  have hqgt : Grid Ht q vals ls := hqt.grid
  have hot : Ints Ht o os := ho.row
  have hpt : Ints Ht p ts := row_box (Row.keep (Row.keep hpx kr) ky) xt hby
  have hkt : Ints Ht k ks := row_box hky xt hby
  have hpvt : Ints Ht pv ps := row_box hpy xt hby
  have hgt : Ht.get bs = some (Sc a c w n l k) := by rw [xt.2 bs (by omega) (by omega)]; exact hgy
  have hBt : H.n ≤ Ht.n := by omega
  repeat' first
    | refine CO.cons rfl ?_
    | refine CO.nil ?_
    | refine CV.seq ?_
    | refine CV.region callees ?_
    | refine CV.cond ?_
    | refine CV.block ?_
    | refine CV.skip ?_
    | refine CV.exit ?_
    | refine CV.ret ?_
    | refine CV.scope ?_
    | refine CV.draw callees rfl ?_
    | refine CH.cons rfl ?_
    | refine CH.nil ?_
    | refine CO.consG rfl ?_
    | refine CH.consG rfl ?_
    | refine CG.cons rfl ?_
    | refine CR.cons ?_
    | refine CR.nil ?_
    | refine CG.nil ?_
    | refine CG.consG rfl ?_
    | refine ⟨(rfl : plain _ = true), ?_⟩
    | refine ⟨(rfl : nilOk _ = some _), ?_⟩
    | refine ⟨_, ints_len (by assumption), ?_⟩
    | refine ⟨_, ints_addr (by assumption) (by omega) (by omega), ?_⟩
    | refine ⟨_, ints_load (by assumption) (by omega) (by omega), ?_⟩
    | refine ⟨(⟨by omega, by omega⟩ : inI64 _), ?_⟩
    | refine ⟨_, fun tm ha => step1_max rfl (ev_tmp ha rfl) (ev_tmp ha rfl), ?_⟩
    | refine ⟨_, fun tm ha => step1_min rfl (ev_tmp ha rfl) (ev_tmp ha rfl), ?_⟩
    | (refine ⟨fun _ => ?_, fun _ => ?_⟩ <;> first | (exfalso; omega) | skip)
    | fail
  refine CV.loopc ?_
  refine WCv.rounds callees false (α := Value × List Value × List (List Int)) (fun (y, vs, ms) => [(3, bp b), (4, .pointer (some ⟨bs, 0, none⟩)), (5, p), (6, q), (9, pv), (15, o), (16, y), (17, .int .i64 ms.length)]) (fun (y, vs, ms) Hz => ms.length ≤ ls.length ∧ OwnG Hz y vs ms H7.n ∧ Keep Ht Hz ∧ (∀ c, blkOf y = some c → Ht.n ≤ c) ∧ (∀ i, i < ms.length → ms[i]! = ls[(os[i]!).toNat]!)) (fun (y, vs, ms) => ls.length - ms.length) (.slice none 0 0, [], []) (by repeat' first | exact trivial | refine ⟨rfl, ?_⟩ | refine ⟨slot_int (by (try simp only [Int.toNat_natCast]); omega), ?_⟩) ?_ ?_
  · exact ⟨by simp, OwnG.nil, Keep.refl _, fun c hc => (by cases hc), fun i hi => by simp at hi⟩
  rintro ⟨y, vs, ms⟩ Hu ⟨hml, hy, ku, hyb, hms⟩ hBu
  have lku := ku.1
  have hou : Ints Hu o os := Row.keep hot ku
  by_cases hm2 : ms.length < ls.length
  · have hqu : OwnG Hu q vals ls H7.n := hqt.keep ku
    have hqgu : Grid Hu q vals ls := hqu.grid
    have hoi := hos.2 ms.length (by omega)
    have hoe : os[(ms.length : Int).toNat]! = os[ms.length]! := rfl
    have hri : Own 3 Hu vals[(os[ms.length]!).toNat]! (ls[(os[ms.length]!).toNat]!.map VI) H7.n := hqu.at' _ (by omega)
    have hrt : Own 3 Ht vals[(os[ms.length]!).toNat]! (ls[(os[ms.length]!).toNat]!.map VI) H7.n := hqt.at' _ (by omega)
    repeat' first
      | refine CO.cons rfl ?_
      | refine CO.nil ?_
      | refine CV.seq ?_
      | refine CV.region callees ?_
      | refine CV.cond ?_
      | refine CV.block ?_
      | refine CV.skip ?_
      | refine CV.exit ?_
      | refine CV.ret ?_
      | refine CV.scope ?_
      | refine CV.draw callees rfl ?_
      | refine CH.cons rfl ?_
      | refine CH.nil ?_
      | refine CO.consG rfl ?_
      | refine CH.consG rfl ?_
      | refine CG.cons rfl ?_
      | refine CR.cons ?_
      | refine CR.nil ?_
      | refine CG.nil ?_
      | refine CG.consG rfl ?_
      | refine ⟨(rfl : plain _ = true), ?_⟩
      | refine ⟨(rfl : nilOk _ = some _), ?_⟩
      | refine ⟨_, ints_len (by assumption), ?_⟩
      | refine ⟨_, ints_addr (by assumption) (by omega) (by omega), ?_⟩
      | refine ⟨_, ints_load (by assumption) (by omega) (by omega), ?_⟩
      | refine ⟨(⟨by omega, by omega⟩ : inI64 _), ?_⟩
      | refine ⟨_, fun tm ha => step1_max rfl (ev_tmp ha rfl) (ev_tmp ha rfl), ?_⟩
      | refine ⟨_, fun tm ha => step1_min rfl (ev_tmp ha rfl) (ev_tmp ha rfl), ?_⟩
      | refine ⟨_, hqgu.addr (by omega) (by omega), ?_⟩
      | refine ⟨_, hqgu.load (by omega) (by omega), ?_⟩
      | refine ⟨_, _, build_one un32 one22 hri.row.oneC.1, ?_⟩
      | (refine ⟨fun _ => ?_, fun _ => ?_⟩ <;> first | (exfalso; omega) | skip)
      | fail
    refine gpush_ask (xs := ls[(os[ms.length]!).toNat]!) hy (by omega) (by omega) hri (fun d hd hd2 => by have h1 := (hrt.lt hd).2; have h2 := hyb d hd2; omega) (by omega) ?_
    intro y2 H9 hy9 kb9 hf9
    have lz : (ms ++ [ls[(os[ms.length]!).toNat]!]).length = ms.length + 1 := by simp
    repeat' first
      | refine CO.cons rfl ?_
      | refine CO.nil ?_
      | refine CV.seq ?_
      | refine CV.region callees ?_
      | refine CV.cond ?_
      | refine CV.block ?_
      | refine CV.skip ?_
      | refine CV.exit ?_
      | refine CV.ret ?_
      | refine CV.scope ?_
      | refine CV.draw callees rfl ?_
      | refine CH.cons rfl ?_
      | refine CH.nil ?_
      | refine CO.consG rfl ?_
      | refine CH.consG rfl ?_
      | refine CG.cons rfl ?_
      | refine CR.cons ?_
      | refine CR.nil ?_
      | refine CG.nil ?_
      | refine CG.consG rfl ?_
      | refine ⟨(rfl : plain _ = true), ?_⟩
      | refine ⟨(rfl : nilOk _ = some _), ?_⟩
      | refine ⟨_, ints_len (by assumption), ?_⟩
      | refine ⟨_, ints_addr (by assumption) (by omega) (by omega), ?_⟩
      | refine ⟨_, ints_load (by assumption) (by omega) (by omega), ?_⟩
      | refine ⟨(⟨by omega, by omega⟩ : inI64 _), ?_⟩
      | refine ⟨_, fun tm ha => step1_max rfl (ev_tmp ha rfl) (ev_tmp ha rfl), ?_⟩
      | refine ⟨_, fun tm ha => step1_min rfl (ev_tmp ha rfl) (ev_tmp ha rfl), ?_⟩
      | (refine ⟨fun _ => ?_, fun _ => ?_⟩ <;> first | (exfalso; omega) | skip)
      | fail
    refine ⟨(y2, vs ++ [vals[(os[ms.length]!).toNat]!], ms ++ [ls[(os[ms.length]!).toNat]!]), (by repeat' first | exact trivial | refine ⟨rfl, ?_⟩ | refine ⟨slot_int (by (try simp only [Int.toNat_natCast]); omega), ?_⟩), (by (try dsimp only); omega), ?_⟩
    refine ⟨by omega, hy9, kb9.keep ku hyb, fun c hc => by have := hf9 c hc; omega, fun i hi => ?_⟩
    rw [at_snoc]
    by_cases e : i < ms.length
    · rw [if_pos e]; exact hms i e
    · have : i = ms.length := by omega
      subst this
      rw [if_neg e, if_pos rfl]
  have hme : ms.length = ls.length := by omega
  have hGM : GoodA ts ms := ⟨by omega, fun i hi => by
    rw [hms i hi]
    have := hos.2 i (by omega)
    exact hGA.row _ (by omega)⟩
  have hgu : Hu.get bs = some (Sc a c w n l k) := by rw [ku.2 bs (by omega)]; exact hgt
  repeat' first
    | refine CO.cons rfl ?_
    | refine CO.nil ?_
    | refine CV.seq ?_
    | refine CV.region callees ?_
    | refine CV.cond ?_
    | refine CV.block ?_
    | refine CV.skip ?_
    | refine CV.exit ?_
    | refine CV.ret ?_
    | refine CV.scope ?_
    | refine CV.draw callees rfl ?_
    | refine CH.cons rfl ?_
    | refine CH.nil ?_
    | refine CO.consG rfl ?_
    | refine CH.consG rfl ?_
    | refine CG.cons rfl ?_
    | refine CR.cons ?_
    | refine CR.nil ?_
    | refine CG.nil ?_
    | refine CG.consG rfl ?_
    | refine ⟨(rfl : plain _ = true), ?_⟩
    | refine ⟨(rfl : nilOk _ = some _), ?_⟩
    | refine ⟨_, ints_len (by assumption), ?_⟩
    | refine ⟨_, ints_addr (by assumption) (by omega) (by omega), ?_⟩
    | refine ⟨_, ints_load (by assumption) (by omega) (by omega), ?_⟩
    | refine ⟨(⟨by omega, by omega⟩ : inI64 _), ?_⟩
    | refine ⟨_, fun tm ha => step1_max rfl (ev_tmp ha rfl) (ev_tmp ha rfl), ?_⟩
    | refine ⟨_, fun tm ha => step1_min rfl (ev_tmp ha rfl) (ev_tmp ha rfl), ?_⟩
    | (refine ⟨_, loadS hgu, ?_⟩)
    | (refine ⟨fun _ => ?_, fun _ => ?_⟩ <;> first | (exfalso; omega) | skip)
    | fail
  refine (sRank_spec hBu (Row.keep hkt ku) hval (Row.keep hpt ku) ct hy.grid hGM).mono ?_
  rintro r Hv ⟨⟨yv, qv, ys, rs, rfl, lys, hsy, hyv, lrs, hrs, hqv⟩, kv⟩
  have lv := kv.1
  have hqgv : Grid Hv q vals ls := ((hqt.keep ku).keep kv).grid
  have hov : Ints Hv o os := Row.keep hou kv
  have hpvv : Ints Hv pv ps := Row.keep (Row.keep hpvt ku) kv
  have hBv : H.n ≤ Hv.n := by omega
  repeat' first
    | refine CO.cons rfl ?_
    | refine CO.nil ?_
    | refine CV.seq ?_
    | refine CV.region callees ?_
    | refine CV.cond ?_
    | refine CV.block ?_
    | refine CV.skip ?_
    | refine CV.exit ?_
    | refine CV.ret ?_
    | refine CV.scope ?_
    | refine CV.draw callees rfl ?_
    | refine CH.cons rfl ?_
    | refine CH.nil ?_
    | refine CO.consG rfl ?_
    | refine CH.consG rfl ?_
    | refine CG.cons rfl ?_
    | refine CR.cons ?_
    | refine CR.nil ?_
    | refine CG.nil ?_
    | refine CG.consG rfl ?_
    | refine ⟨(rfl : plain _ = true), ?_⟩
    | refine ⟨(rfl : nilOk _ = some _), ?_⟩
    | refine ⟨_, ints_len (by assumption), ?_⟩
    | refine ⟨_, ints_addr (by assumption) (by omega) (by omega), ?_⟩
    | refine ⟨_, ints_load (by assumption) (by omega) (by omega), ?_⟩
    | refine ⟨(⟨by omega, by omega⟩ : inI64 _), ?_⟩
    | refine ⟨_, fun tm ha => step1_max rfl (ev_tmp ha rfl) (ev_tmp ha rfl), ?_⟩
    | refine ⟨_, fun tm ha => step1_min rfl (ev_tmp ha rfl) (ev_tmp ha rfl), ?_⟩
    | refine ⟨_, hqgv.alen, ?_⟩
    | (refine ⟨fun _ => ?_, fun _ => ?_⟩ <;> first | (exfalso; omega) | skip)
    | fail
  refine CV.loopc ?_
  refine WCv.rounds callees false (α := Nat) (fun i => [(9, pv), (15, o), (19, qv), (21, .int .i64 i)]) (fun i Hz => i ≤ ls.length ∧ Hz = Hv) (fun i => ls.length - i) (0) (by repeat' first | exact trivial | refine ⟨rfl, ?_⟩ | refine ⟨slot_int (by (try simp only [Int.toNat_natCast]); omega), ?_⟩) ?_ ?_
  · exact ⟨by omega, rfl⟩
  rintro i Hw ⟨hi, rfl⟩ hBw
  by_cases hi2 : i < ls.length
  · have hoi := hos.2 i (by omega)
    have hoe : os[(i : Int).toNat]! = os[i]! := rfl
    have e1 : rs[(i : Int).toNat]! = (Pl ks ys i : Int) := hrs i (by omega)
    have e2 : ps[(os[(i : Int).toNat]!).toNat]! = (Pl ks xs (os[i]!).toNat : Int) := hps (os[i]!).toNat (by omega)
    have e3 := places_perm (i := i) hval.keys h6 hos lo hme (fun i hi => hms i (by omega)) lxs lys hsc hsy hi2
    repeat' first
      | refine CO.cons rfl ?_
      | refine CO.nil ?_
      | refine CV.seq ?_
      | refine CV.region callees ?_
      | refine CV.cond ?_
      | refine CV.block ?_
      | refine CV.skip ?_
      | refine CV.exit ?_
      | refine CV.ret ?_
      | refine CV.scope ?_
      | refine CV.draw callees rfl ?_
      | refine CH.cons rfl ?_
      | refine CH.nil ?_
      | refine CO.consG rfl ?_
      | refine CH.consG rfl ?_
      | refine CG.cons rfl ?_
      | refine CR.cons ?_
      | refine CR.nil ?_
      | refine CG.nil ?_
      | refine CG.consG rfl ?_
      | refine ⟨(rfl : plain _ = true), ?_⟩
      | refine ⟨(rfl : nilOk _ = some _), ?_⟩
      | refine ⟨_, ints_len (by assumption), ?_⟩
      | refine ⟨_, ints_addr (by assumption) (by omega) (by omega), ?_⟩
      | refine ⟨_, ints_load (by assumption) (by omega) (by omega), ?_⟩
      | refine ⟨(⟨by omega, by omega⟩ : inI64 _), ?_⟩
      | refine ⟨_, fun tm ha => step1_max rfl (ev_tmp ha rfl) (ev_tmp ha rfl), ?_⟩
      | refine ⟨_, fun tm ha => step1_min rfl (ev_tmp ha rfl) (ev_tmp ha rfl), ?_⟩
      | (refine ⟨fun _ => ?_, fun _ => ?_⟩ <;> first | (exfalso; omega) | skip)
      | fail
    refine ⟨(i + 1), (by repeat' first | exact trivial | refine ⟨rfl, ?_⟩ | refine ⟨slot_int (by (try simp only [Int.toNat_natCast]); omega), ?_⟩), (by (try dsimp only); omega), ?_⟩
    exact ⟨by omega, rfl⟩
  · repeat' first
      | refine CO.cons rfl ?_
      | refine CO.nil ?_
      | refine CV.seq ?_
      | refine CV.region callees ?_
      | refine CV.cond ?_
      | refine CV.block ?_
      | refine CV.skip ?_
      | refine CV.exit ?_
      | refine CV.ret ?_
      | refine CV.scope ?_
      | refine CV.draw callees rfl ?_
      | refine CH.cons rfl ?_
      | refine CH.nil ?_
      | refine CO.consG rfl ?_
      | refine CH.consG rfl ?_
      | refine CG.cons rfl ?_
      | refine CR.cons ?_
      | refine CR.nil ?_
      | refine CG.nil ?_
      | refine CG.consG rfl ?_
      | refine ⟨(rfl : plain _ = true), ?_⟩
      | refine ⟨(rfl : nilOk _ = some _), ?_⟩
      | refine ⟨_, ints_len (by assumption), ?_⟩
      | refine ⟨_, ints_addr (by assumption) (by omega) (by omega), ?_⟩
      | refine ⟨_, ints_load (by assumption) (by omega) (by omega), ?_⟩
      | refine ⟨(⟨by omega, by omega⟩ : inI64 _), ?_⟩
      | refine ⟨_, fun tm ha => step1_max rfl (ev_tmp ha rfl) (ev_tmp ha rfl), ?_⟩
      | refine ⟨_, fun tm ha => step1_min rfl (ev_tmp ha rfl) (ev_tmp ha rfl), ?_⟩
      | refine CallB.known rfl (base_any _) hBw ?_
      | (refine ⟨fun _ => ?_, fun _ => ?_⟩ <;> first | (exfalso; omega) | skip)
      | fail
    exact ⟨rfl, rfl⟩
end Go.Proofs.Ytcpklnekpdhlmaa
