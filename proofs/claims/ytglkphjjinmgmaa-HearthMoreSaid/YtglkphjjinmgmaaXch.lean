
/- HearthMore: the law. -/
import Derived.Test.YtglkphjjinmgmaaXbh
set_option linter.unusedVariables false
set_option linter.unusedSimpArgs false
namespace Go.Proofs.Ytglkphjjinmgmaa
open Go.AI
theorem po_w {H : Heap} {v : Value} {l : List Po} (h : RowS 3 H v (l.map Pol)) {j : Nat} (hj : j < l.length) : aload Try.prog 3 H (fieldOf (elemS v 3 j) 2) = some (VJ l[j]!.wm) := h.fload ag3 (j := j) (o := 2) (r := Pol l[j]!) (po_at hj) rfl
theorem pok_wm2 {w : Int} {ps qs : List Po} (h : POk w ps) (hl : qs.length = ps.length) (hq : ∀ i, i < ps.length → qs[i]!.mi = ps[i]!.mi ∧ qs[i]!.la = ps[i]!.la ∧ ps[i]!.wm ≤ qs[i]!.wm ∧ qs[i]!.wm ≤ 1000) : POk w qs := by
  have hm : qs.map (·.la) = ps.map (·.la) := by
    apply List.ext_getElem (by simp [hl])
    intro i h1 h2
    have h3 : i < ps.length := by simpa using h2
    have := (hq i h3).2.1
    rw [getElem!_pos qs i (by omega), getElem!_pos ps i h3] at this
    simpa using this
  refine ⟨by have := h.n; omega, fun i hi => by rw [(hq i (by omega)).1]; exact h.mi i (by omega), fun i hi => by rw [(hq i (by omega)).2.1]; exact h.la i (by omega), fun i hi => by have h1 := (hq i (by omega)).2.2; have h2 := h.wm i (by omega); omega, fun i hi => by rw [(hq i (by omega)).1, (hq (i + 1) (by omega)).1]; exact h.up i (by omega), fun i hi => ?_⟩
  have := h.wa i (by omega)
  unfold watN at this ⊢
  rw [hm]; exact this
set_option maxHeartbeats 16000000 in
set_option maxRecDepth 100000 in
theorem more_spec {v : Value} {H : Heap} {nums : List Int} (hv : Ints H v nums) (hx : nums.length ≤ 9223372036854775807) :
    CallB Try.prog H.n 10 [v] H (fun r _ => r = .bool true) := by
  have hn : H.n ≤ H.n := Nat.le_refl _
  refine CV.enter callees false rfl Try.func10 rfl (by kernel_rfl) (Nat.le_of_ble_eq_true rfl) hn ?_
  repeat' first
    | refine CO.cons rfl ?_
    | refine CO.nil ?_
    | refine CV.seq ?_
    | refine CV.region callees ?_
    | refine CV.cond ?_
    | refine CV.block ?_
    | refine CV.skip ?_
    | refine CV.exit ?_
    | refine CV.ret ?_
    | refine CV.scope ?_
    | refine CV.draw callees (by decide +kernel) ?_
    | refine CH.cons rfl ?_
    | refine CH.nil ?_
    | refine CO.consG rfl ?_
    | refine CH.consG rfl ?_
    | refine CG.cons rfl ?_
    | refine CR.cons ?_
    | refine CR.nil ?_
    | refine CG.nil ?_
    | refine CG.consG rfl ?_
    | refine ⟨(rfl : plain _ = true), ?_⟩
    | refine ⟨(rfl : nilOk _ = some _), ?_⟩
    | refine ⟨_, ints_len (by assumption), ?_⟩
    | refine ⟨_, ints_addr (by assumption) (by omega) (by omega), ?_⟩
    | refine ⟨_, ints_load (by assumption) (by omega) (by omega), ?_⟩
    | refine ⟨(⟨by omega, by omega⟩ : inI64 _), ?_⟩
    | refine ⟨_, fun tm ha => step1_max rfl (ev_tmp ha rfl) (ev_tmp ha rfl), ?_⟩
    | refine ⟨_, fun tm ha => step1_min rfl (ev_tmp ha rfl) (ev_tmp ha rfl), ?_⟩
    | (refine ⟨fun _ => ?_, fun _ => ?_⟩ <;> first | (exfalso; omega) | skip)
    | fail
  refine (boxOf_spec hn hv hx).mono ?_
  rintro r H1 ⟨⟨b, rfl, hb, hbox⟩, k1⟩
  have l1 := k1.1
  repeat' first
    | refine CO.cons rfl ?_
    | refine CO.nil ?_
    | refine CV.seq ?_
    | refine CV.region callees ?_
    | refine CV.cond ?_
    | refine CV.block ?_
    | refine CV.skip ?_
    | refine CV.exit ?_
    | refine CV.ret ?_
    | refine CV.scope ?_
    | refine CV.draw callees (by decide +kernel) ?_
    | refine CH.cons rfl ?_
    | refine CH.nil ?_
    | refine CO.consG rfl ?_
    | refine CH.consG rfl ?_
    | refine CG.cons rfl ?_
    | refine CR.cons ?_
    | refine CR.nil ?_
    | refine CG.nil ?_
    | refine CG.consG rfl ?_
    | refine ⟨(rfl : plain _ = true), ?_⟩
    | refine ⟨(rfl : nilOk _ = some _), ?_⟩
    | refine ⟨_, ints_len (by assumption), ?_⟩
    | refine ⟨_, ints_addr (by assumption) (by omega) (by omega), ?_⟩
    | refine ⟨_, ints_load (by assumption) (by omega) (by omega), ?_⟩
    | refine ⟨(⟨by omega, by omega⟩ : inI64 _), ?_⟩
    | refine ⟨_, fun tm ha => step1_max rfl (ev_tmp ha rfl) (ev_tmp ha rfl), ?_⟩
    | refine ⟨_, fun tm ha => step1_min rfl (ev_tmp ha rfl) (ev_tmp ha rfl), ?_⟩
    | (refine ⟨fun _ => ?_, fun _ => ?_⟩ <;> first | (exfalso; omega) | skip)
    | fail
  refine (fireOf_spec hb l1 hbox (by omega) (by omega)).mono ?_
  rintro r H2 ⟨⟨cv, tv, cs, ts, rfl, hc2, ht2, hf, hcn, hcs⟩, hb2, x2⟩
  have l2 := x2.1
  have hbn := hbox.1
  have hbn2 := hb2.1
  repeat' first
    | refine CO.cons rfl ?_
    | refine CO.nil ?_
    | refine CV.seq ?_
    | refine CV.region callees ?_
    | refine CV.cond ?_
    | refine CV.block ?_
    | refine CV.skip ?_
    | refine CV.exit ?_
    | refine CV.ret ?_
    | refine CV.scope ?_
    | refine CV.draw callees (by decide +kernel) ?_
    | refine CH.cons rfl ?_
    | refine CH.nil ?_
    | refine CO.consG rfl ?_
    | refine CH.consG rfl ?_
    | refine CG.cons rfl ?_
    | refine CR.cons ?_
    | refine CR.nil ?_
    | refine CG.nil ?_
    | refine CG.consG rfl ?_
    | refine ⟨(rfl : plain _ = true), ?_⟩
    | refine ⟨(rfl : nilOk _ = some _), ?_⟩
    | refine ⟨_, ints_len (by assumption), ?_⟩
    | refine ⟨_, ints_addr (by assumption) (by omega) (by omega), ?_⟩
    | refine ⟨_, ints_load (by assumption) (by omega) (by omega), ?_⟩
    | refine ⟨(⟨by omega, by omega⟩ : inI64 _), ?_⟩
    | refine ⟨_, fun tm ha => step1_max rfl (ev_tmp ha rfl) (ev_tmp ha rfl), ?_⟩
    | refine ⟨_, fun tm ha => step1_min rfl (ev_tmp ha rfl) (ev_tmp ha rfl), ?_⟩
    | (refine ⟨fun _ => ?_, fun _ => ?_⟩ <;> first | (exfalso; omega) | skip)
    | fail
  refine (kettleOf_spec hb (by omega) hb2).mono ?_
  rintro r H3 ⟨⟨k, rfl, hk, hwa⟩, hb3, x3⟩
  have l3 := x3.1
  have hc3 : OwnC H3 cv cs _ := OwnS.boxed hc2 x3 hb2
  have ht3 : OwnT H3 tv ts _ := OwnS.boxed ht2 x3 hb2
  repeat' first
    | refine CO.cons rfl ?_
    | refine CO.nil ?_
    | refine CV.seq ?_
    | refine CV.region callees ?_
    | refine CV.cond ?_
    | refine CV.block ?_
    | refine CV.skip ?_
    | refine CV.exit ?_
    | refine CV.ret ?_
    | refine CV.scope ?_
    | refine CV.draw callees (by decide +kernel) ?_
    | refine CH.cons rfl ?_
    | refine CH.nil ?_
    | refine CO.consG rfl ?_
    | refine CH.consG rfl ?_
    | refine CG.cons rfl ?_
    | refine CR.cons ?_
    | refine CR.nil ?_
    | refine CG.nil ?_
    | refine CG.consG rfl ?_
    | refine ⟨(rfl : plain _ = true), ?_⟩
    | refine ⟨(rfl : nilOk _ = some _), ?_⟩
    | refine ⟨_, ints_len (by assumption), ?_⟩
    | refine ⟨_, ints_addr (by assumption) (by omega) (by omega), ?_⟩
    | refine ⟨_, ints_load (by assumption) (by omega) (by omega), ?_⟩
    | refine ⟨(⟨by omega, by omega⟩ : inI64 _), ?_⟩
    | refine ⟨_, fun tm ha => step1_max rfl (ev_tmp ha rfl) (ev_tmp ha rfl), ?_⟩
    | refine ⟨_, fun tm ha => step1_min rfl (ev_tmp ha rfl) (ev_tmp ha rfl), ?_⟩
    | (refine ⟨_, _, al28, ?_⟩)
    | (refine ⟨fun _ => ?_, fun _ => ?_⟩ <;> first | (exfalso; omega) | skip)
    | fail
  generalize hs4 : Heap.new H3 _ = H4
  have hg4 := new_get hs4
  have k4 := new_keep hs4
  have n4 := new_n hs4
  obtain ⟨b4, hbn4⟩ : ∃ b, Heap.n H3 = b := ⟨_, rfl⟩
  rw [hbn4] at hg4 n4 ⊢
  repeat' first
    | refine CO.cons rfl ?_
    | refine CO.nil ?_
    | refine CV.seq ?_
    | refine CV.region callees ?_
    | refine CV.cond ?_
    | refine CV.block ?_
    | refine CV.skip ?_
    | refine CV.exit ?_
    | refine CV.ret ?_
    | refine CV.scope ?_
    | refine CV.draw callees (by decide +kernel) ?_
    | refine CH.cons rfl ?_
    | refine CH.nil ?_
    | refine CO.consG rfl ?_
    | refine CH.consG rfl ?_
    | refine CG.cons rfl ?_
    | refine CR.cons ?_
    | refine CR.nil ?_
    | refine CG.nil ?_
    | refine CG.consG rfl ?_
    | refine ⟨(rfl : plain _ = true), ?_⟩
    | refine ⟨(rfl : nilOk _ = some _), ?_⟩
    | refine ⟨_, ints_len (by assumption), ?_⟩
    | refine ⟨_, ints_addr (by assumption) (by omega) (by omega), ?_⟩
    | refine ⟨_, ints_load (by assumption) (by omega) (by omega), ?_⟩
    | refine ⟨(⟨by omega, by omega⟩ : inI64 _), ?_⟩
    | refine ⟨_, fun tm ha => step1_max rfl (ev_tmp ha rfl) (ev_tmp ha rfl), ?_⟩
    | refine ⟨_, fun tm ha => step1_min rfl (ev_tmp ha rfl) (ev_tmp ha rfl), ?_⟩
    | (refine ⟨_, _, al51, ?_⟩)
    | (refine ⟨fun _ => ?_, fun _ => ?_⟩ <;> first | (exfalso; omega) | skip)
    | fail
  generalize hs5 : Heap.new H4 _ = H5
  have hg5 := new_get hs5
  have k5 := new_keep hs5
  have n5 := new_n hs5
  obtain ⟨b5, hbn5⟩ : ∃ b, Heap.n H4 = b := ⟨_, rfl⟩
  rw [hbn5] at hg5 n5 ⊢
  have hg45 := (k5.2 b4 (by omega)).trans hg4
  repeat' first
    | refine CO.cons rfl ?_
    | refine CO.nil ?_
    | refine CV.seq ?_
    | refine CV.region callees ?_
    | refine CV.cond ?_
    | refine CV.block ?_
    | refine CV.skip ?_
    | refine CV.exit ?_
    | refine CV.ret ?_
    | refine CV.scope ?_
    | refine CV.draw callees (by decide +kernel) ?_
    | refine CH.cons rfl ?_
    | refine CH.nil ?_
    | refine CO.consG rfl ?_
    | refine CH.consG rfl ?_
    | refine CG.cons rfl ?_
    | refine CR.cons ?_
    | refine CR.nil ?_
    | refine CG.nil ?_
    | refine CG.consG rfl ?_
    | refine ⟨(rfl : plain _ = true), ?_⟩
    | refine ⟨(rfl : nilOk _ = some _), ?_⟩
    | refine ⟨_, ints_len (by assumption), ?_⟩
    | refine ⟨_, ints_addr (by assumption) (by omega) (by omega), ?_⟩
    | refine ⟨_, ints_load (by assumption) (by omega) (by omega), ?_⟩
    | refine ⟨(⟨by omega, by omega⟩ : inI64 _), ?_⟩
    | refine ⟨_, fun tm ha => step1_max rfl (ev_tmp ha rfl) (ev_tmp ha rfl), ?_⟩
    | refine ⟨_, fun tm ha => step1_min rfl (ev_tmp ha rfl) (ev_tmp ha rfl), ?_⟩
    | (refine ⟨fun _ => ?_, fun _ => ?_⟩ <;> first | (exfalso; omega) | skip)
    | fail
  refine ⟨_, _, st28 hc3.oneC ht3.oneC hg45, by omega, ?_⟩
  generalize hs6 : Heap.set H5 b4 _ = H6
  have hg6 : H6.get b4 = some (.cells (Fl cv tv) 25 1) := set_get hs6
  have n6 := set_n hs6
  have o6 := set_old hs6
  have hg56 := (o6 b5 (by omega)).trans hg5
  repeat' first
    | refine CO.cons rfl ?_
    | refine CO.nil ?_
    | refine CV.seq ?_
    | refine CV.region callees ?_
    | refine CV.cond ?_
    | refine CV.block ?_
    | refine CV.skip ?_
    | refine CV.exit ?_
    | refine CV.ret ?_
    | refine CV.scope ?_
    | refine CV.draw callees (by decide +kernel) ?_
    | refine CH.cons rfl ?_
    | refine CH.nil ?_
    | refine CO.consG rfl ?_
    | refine CH.consG rfl ?_
    | refine CG.cons rfl ?_
    | refine CR.cons ?_
    | refine CR.nil ?_
    | refine CG.nil ?_
    | refine CG.consG rfl ?_
    | refine ⟨(rfl : plain _ = true), ?_⟩
    | refine ⟨(rfl : nilOk _ = some _), ?_⟩
    | refine ⟨_, ints_len (by assumption), ?_⟩
    | refine ⟨_, ints_addr (by assumption) (by omega) (by omega), ?_⟩
    | refine ⟨_, ints_load (by assumption) (by omega) (by omega), ?_⟩
    | refine ⟨(⟨by omega, by omega⟩ : inI64 _), ?_⟩
    | refine ⟨_, fun tm ha => step1_max rfl (ev_tmp ha rfl) (ev_tmp ha rfl), ?_⟩
    | refine ⟨_, fun tm ha => step1_min rfl (ev_tmp ha rfl) (ev_tmp ha rfl), ?_⟩
    | (refine ⟨fun _ => ?_, fun _ => ?_⟩ <;> first | (exfalso; omega) | skip)
    | fail
  refine ⟨_, _, st51 hg56, by omega, ?_⟩
  generalize hs7 : Heap.set H6 b5 _ = H7
  have hg7 : H7.get b5 = some (.cells (Kel k) 29 1) := set_get hs7
  have n7 := set_n hs7
  have o7 := set_old hs7
  have hf7 := (o7 b4 (by omega)).trans hg6
  have k37 : Keep H3 H7 := keep_put (keep_put (k4.trans k5) (by omega) o6 n6) (by omega) o7 n7
  have l7 := k37.1
  have hb7 := hb3.keep k37
  have hc7 : OwnC H7 cv cs _ := OwnS.keep hc3 k37
  have ht7 : OwnT H7 tv ts _ := OwnS.keep ht3 k37
  repeat' first
    | refine CO.cons rfl ?_
    | refine CO.nil ?_
    | refine CV.seq ?_
    | refine CV.region callees ?_
    | refine CV.cond ?_
    | refine CV.block ?_
    | refine CV.skip ?_
    | refine CV.exit ?_
    | refine CV.ret ?_
    | refine CV.scope ?_
    | refine CV.draw callees (by decide +kernel) ?_
    | refine CH.cons rfl ?_
    | refine CH.nil ?_
    | refine CO.consG rfl ?_
    | refine CH.consG rfl ?_
    | refine CG.cons rfl ?_
    | refine CR.cons ?_
    | refine CR.nil ?_
    | refine CG.nil ?_
    | refine CG.consG rfl ?_
    | refine ⟨(rfl : plain _ = true), ?_⟩
    | refine ⟨(rfl : nilOk _ = some _), ?_⟩
    | refine ⟨_, ints_len (by assumption), ?_⟩
    | refine ⟨_, ints_addr (by assumption) (by omega) (by omega), ?_⟩
    | refine ⟨_, ints_load (by assumption) (by omega) (by omega), ?_⟩
    | refine ⟨(⟨by omega, by omega⟩ : inI64 _), ?_⟩
    | refine ⟨_, fun tm ha => step1_max rfl (ev_tmp ha rfl) (ev_tmp ha rfl), ?_⟩
    | refine ⟨_, fun tm ha => step1_min rfl (ev_tmp ha rfl) (ev_tmp ha rfl), ?_⟩
    | (refine ⟨_, ld51 hg7, ?_⟩)
    | (refine ⟨fun _ => ?_, fun _ => ?_⟩ <;> first | (exfalso; omega) | skip)
    | fail
  refine (poursOf_spec hb (by omega) hb7 hk (by omega) (by omega) (by omega) (by omega)).mono ?_
  rintro pv H8 ⟨⟨ps, hp8, hpo, hpn⟩, hb8, x8⟩
  have l8 := x8.1
  have hk8 := (x8.2 b5 (by omega) (by omega)).trans hg7
  have hf8 := (x8.2 b4 (by omega) (by omega)).trans hf7
  have hc8 : OwnC H8 cv cs _ := OwnS.boxed hc7 x8 hb7
  have ht8 : OwnT H8 tv ts _ := OwnS.boxed ht7 x8 hb7
  repeat' first
    | refine CO.cons rfl ?_
    | refine CO.nil ?_
    | refine CV.seq ?_
    | refine CV.region callees ?_
    | refine CV.cond ?_
    | refine CV.block ?_
    | refine CV.skip ?_
    | refine CV.exit ?_
    | refine CV.ret ?_
    | refine CV.scope ?_
    | refine CV.draw callees (by decide +kernel) ?_
    | refine CH.cons rfl ?_
    | refine CH.nil ?_
    | refine CO.consG rfl ?_
    | refine CH.consG rfl ?_
    | refine CG.cons rfl ?_
    | refine CR.cons ?_
    | refine CR.nil ?_
    | refine CG.nil ?_
    | refine CG.consG rfl ?_
    | refine ⟨(rfl : plain _ = true), ?_⟩
    | refine ⟨(rfl : nilOk _ = some _), ?_⟩
    | refine ⟨_, ints_len (by assumption), ?_⟩
    | refine ⟨_, ints_addr (by assumption) (by omega) (by omega), ?_⟩
    | refine ⟨_, ints_load (by assumption) (by omega) (by omega), ?_⟩
    | refine ⟨(⟨by omega, by omega⟩ : inI64 _), ?_⟩
    | refine ⟨_, fun tm ha => step1_max rfl (ev_tmp ha rfl) (ev_tmp ha rfl), ?_⟩
    | refine ⟨_, fun tm ha => step1_min rfl (ev_tmp ha rfl) (ev_tmp ha rfl), ?_⟩
    | (refine ⟨fun _ => ?_, fun _ => ?_⟩ <;> first | (exfalso; omega) | skip)
    | fail
  refine (up_spec hb (by omega) hb8 (by omega)).mono ?_
  rintro r H9 ⟨⟨mi, rfl, mi1, mi2⟩, hb9, x9⟩
  have l9 := x9.1
  obtain ⟨mN, hmN⟩ : ∃ mN : Nat, mi = (mN : Int) := ⟨mi.toNat, by omega⟩
  subst hmN
  have hk9 := (x9.2 b5 (by omega) (by omega)).trans hk8
  have hf9 := (x9.2 b4 (by omega) (by omega)).trans hf8
  have hc9 : OwnC H9 cv cs _ := OwnS.boxed hc8 x9 hb8
  have ht9 : OwnT H9 tv ts _ := OwnS.boxed ht8 x9 hb8
  have hp9 : OwnO H9 pv ps H7.n := OwnS.boxed hp8 x9 hb8
  repeat' first
    | refine CO.cons rfl ?_
    | refine CO.nil ?_
    | refine CV.seq ?_
    | refine CV.region callees ?_
    | refine CV.cond ?_
    | refine CV.block ?_
    | refine CV.skip ?_
    | refine CV.exit ?_
    | refine CV.ret ?_
    | refine CV.scope ?_
    | refine CV.draw callees (by decide +kernel) ?_
    | refine CH.cons rfl ?_
    | refine CH.nil ?_
    | refine CO.consG rfl ?_
    | refine CH.consG rfl ?_
    | refine CG.cons rfl ?_
    | refine CR.cons ?_
    | refine CR.nil ?_
    | refine CG.nil ?_
    | refine CG.consG rfl ?_
    | refine ⟨(rfl : plain _ = true), ?_⟩
    | refine ⟨(rfl : nilOk _ = some _), ?_⟩
    | refine ⟨_, ints_len (by assumption), ?_⟩
    | refine ⟨_, ints_addr (by assumption) (by omega) (by omega), ?_⟩
    | refine ⟨_, ints_load (by assumption) (by omega) (by omega), ?_⟩
    | refine ⟨(⟨by omega, by omega⟩ : inI64 _), ?_⟩
    | refine ⟨_, fun tm ha => step1_max rfl (ev_tmp ha rfl) (ev_tmp ha rfl), ?_⟩
    | refine ⟨_, fun tm ha => step1_min rfl (ev_tmp ha rfl) (ev_tmp ha rfl), ?_⟩
    | (refine ⟨_, ld28 hf9, ?_⟩)
    | (refine ⟨fun _ => ?_, fun _ => ?_⟩ <;> first | (exfalso; omega) | skip)
    | fail
  refine (ownFire_spec (by omega) hc9 ht9 (by have := hf.n; omega) (by have := hf.m; omega)).mono ?_
  rintro r Ha ⟨⟨c2, t2, rfl, hca, hta, hap⟩, ka⟩
  have la := ka.1
  have hb9n := hb9.1
  have hba := hb9.keep ka
  have hka := (ka.2 b5 (by omega)).trans hk9
  have hfa := (ka.2 b4 (by omega)).trans hf9
  have hc9a : OwnC Ha cv cs _ := OwnS.keep hc9 ka
  have ht9a : OwnT Ha tv ts _ := OwnS.keep ht9 ka
  have hp9a : OwnO Ha pv ps H7.n := OwnS.keep hp9 ka
  repeat' first
    | refine CO.cons rfl ?_
    | refine CO.nil ?_
    | refine CV.seq ?_
    | refine CV.region callees ?_
    | refine CV.cond ?_
    | refine CV.block ?_
    | refine CV.skip ?_
    | refine CV.exit ?_
    | refine CV.ret ?_
    | refine CV.scope ?_
    | refine CV.draw callees (by decide +kernel) ?_
    | refine CH.cons rfl ?_
    | refine CH.nil ?_
    | refine CO.consG rfl ?_
    | refine CH.consG rfl ?_
    | refine CG.cons rfl ?_
    | refine CR.cons ?_
    | refine CR.nil ?_
    | refine CG.nil ?_
    | refine CG.consG rfl ?_
    | refine ⟨(rfl : plain _ = true), ?_⟩
    | refine ⟨(rfl : nilOk _ = some _), ?_⟩
    | refine ⟨_, ints_len (by assumption), ?_⟩
    | refine ⟨_, ints_addr (by assumption) (by omega) (by omega), ?_⟩
    | refine ⟨_, ints_load (by assumption) (by omega) (by omega), ?_⟩
    | refine ⟨(⟨by omega, by omega⟩ : inI64 _), ?_⟩
    | refine ⟨_, fun tm ha => step1_max rfl (ev_tmp ha rfl) (ev_tmp ha rfl), ?_⟩
    | refine ⟨_, fun tm ha => step1_min rfl (ev_tmp ha rfl) (ev_tmp ha rfl), ?_⟩
    | (refine ⟨_, _, al28, ?_⟩)
    | (refine ⟨fun _ => ?_, fun _ => ?_⟩ <;> first | (exfalso; omega) | skip)
    | fail
  generalize hsm : Heap.new Ha _ = Hm
  have hgm := new_get hsm
  have km := new_keep hsm
  have nm := new_n hsm
  obtain ⟨bm, hbnm⟩ : ∃ b, Heap.n Ha = b := ⟨_, rfl⟩
  rw [hbnm] at hgm nm ⊢
  repeat' first
    | refine CO.cons rfl ?_
    | refine CO.nil ?_
    | refine CV.seq ?_
    | refine CV.region callees ?_
    | refine CV.cond ?_
    | refine CV.block ?_
    | refine CV.skip ?_
    | refine CV.exit ?_
    | refine CV.ret ?_
    | refine CV.scope ?_
    | refine CV.draw callees (by decide +kernel) ?_
    | refine CH.cons rfl ?_
    | refine CH.nil ?_
    | refine CO.consG rfl ?_
    | refine CH.consG rfl ?_
    | refine CG.cons rfl ?_
    | refine CR.cons ?_
    | refine CR.nil ?_
    | refine CG.nil ?_
    | refine CG.consG rfl ?_
    | refine ⟨(rfl : plain _ = true), ?_⟩
    | refine ⟨(rfl : nilOk _ = some _), ?_⟩
    | refine ⟨_, ints_len (by assumption), ?_⟩
    | refine ⟨_, ints_addr (by assumption) (by omega) (by omega), ?_⟩
    | refine ⟨_, ints_load (by assumption) (by omega) (by omega), ?_⟩
    | refine ⟨(⟨by omega, by omega⟩ : inI64 _), ?_⟩
    | refine ⟨_, fun tm ha => step1_max rfl (ev_tmp ha rfl) (ev_tmp ha rfl), ?_⟩
    | refine ⟨_, fun tm ha => step1_min rfl (ev_tmp ha rfl) (ev_tmp ha rfl), ?_⟩
    | (refine ⟨fun _ => ?_, fun _ => ?_⟩ <;> first | (exfalso; omega) | skip)
    | fail
  refine ⟨_, _, st28 hca.oneC hta.oneC hgm, by omega, ?_⟩
  generalize hsb : Heap.set Hm bm _ = Hb
  have hgb : Hb.get bm = some (.cells (Fl c2 t2) 25 1) := set_get hsb
  have nb := set_n hsb
  have ob := set_old hsb
  have kb : Keep Ha Hb := keep_put km (by omega) ob nb
  have lb := kb.1
  have hbb := hba.keep kb
  have hkb := (kb.2 b5 (by omega)).trans hka
  have hfb := (kb.2 b4 (by omega)).trans hfa
  have hcb : OwnC Hb cv cs _ := OwnS.keep hc9a kb
  have htb : OwnT Hb tv ts _ := OwnS.keep ht9a kb
  have hpb : OwnO Hb pv ps H7.n := OwnS.keep hp9a kb
  have hc2b : OwnC Hb c2 cs H9.n := OwnS.keep hca kb
  have ht2b : OwnT Hb t2 ts H9.n := OwnS.keep hta kb
  have hbbn := hbb.1
  repeat' first
    | refine CO.cons rfl ?_
    | refine CO.nil ?_
    | refine CV.seq ?_
    | refine CV.region callees ?_
    | refine CV.cond ?_
    | refine CV.block ?_
    | refine CV.skip ?_
    | refine CV.exit ?_
    | refine CV.ret ?_
    | refine CV.scope ?_
    | refine CV.draw callees (by decide +kernel) ?_
    | refine CH.cons rfl ?_
    | refine CH.nil ?_
    | refine CO.consG rfl ?_
    | refine CH.consG rfl ?_
    | refine CG.cons rfl ?_
    | refine CR.cons ?_
    | refine CR.nil ?_
    | refine CG.nil ?_
    | refine CG.consG rfl ?_
    | refine ⟨(rfl : plain _ = true), ?_⟩
    | refine ⟨(rfl : nilOk _ = some _), ?_⟩
    | refine ⟨_, ints_len (by assumption), ?_⟩
    | refine ⟨_, ints_addr (by assumption) (by omega) (by omega), ?_⟩
    | refine ⟨_, ints_load (by assumption) (by omega) (by omega), ?_⟩
    | refine ⟨(⟨by omega, by omega⟩ : inI64 _), ?_⟩
    | refine ⟨_, fun tm ha => step1_max rfl (ev_tmp ha rfl) (ev_tmp ha rfl), ?_⟩
    | refine ⟨_, fun tm ha => step1_min rfl (ev_tmp ha rfl) (ev_tmp ha rfl), ?_⟩
    | (refine ⟨fun _ => ?_, fun _ => ?_⟩ <;> first | (exfalso; omega) | skip)
    | fail
  refine CV.wideR callees (by decide +kernel) [(0, []), (1, []), (2, []), (4, []), (6, []), (8, []), (3, [1]), (5, [1]), (7, [1]), (9, [1]), (10, []), (11, [1]), (12, []), (13, []), (14, [])] (by kernel_rfl) ?_
  repeat' first
    | refine CO.cons rfl ?_
    | refine CO.nil ?_
    | refine CV.seq ?_
    | refine CV.region callees ?_
    | refine CV.cond ?_
    | refine CV.block ?_
    | refine CV.skip ?_
    | refine CV.exit ?_
    | refine CV.ret ?_
    | refine CV.scope ?_
    | refine CV.draw callees (by decide +kernel) ?_
    | refine CH.cons rfl ?_
    | refine CH.nil ?_
    | refine CO.consG rfl ?_
    | refine CH.consG rfl ?_
    | refine CG.cons rfl ?_
    | refine CR.cons ?_
    | refine CR.nil ?_
    | refine CG.nil ?_
    | refine CG.consG rfl ?_
    | refine ⟨(rfl : plain _ = true), ?_⟩
    | refine ⟨(rfl : nilOk _ = some _), ?_⟩
    | refine ⟨_, ints_len (by assumption), ?_⟩
    | refine ⟨_, ints_addr (by assumption) (by omega) (by omega), ?_⟩
    | refine ⟨_, ints_load (by assumption) (by omega) (by omega), ?_⟩
    | refine ⟨(⟨by omega, by omega⟩ : inI64 _), ?_⟩
    | refine ⟨_, fun tm ha => step1_max rfl (ev_tmp ha rfl) (ev_tmp ha rfl), ?_⟩
    | refine ⟨_, fun tm ha => step1_min rfl (ev_tmp ha rfl) (ev_tmp ha rfl), ?_⟩
    | (refine ⟨_, fS foF0 (by decide), ?_⟩)
    | (refine ⟨_, cell_load ag25 hgb rfl, ?_⟩)
    | (refine ⟨fun _ => ?_, fun _ => ?_⟩ <;> first | (exfalso; omega) | skip)
    | fail
  refine (bspan_spec hb (by omega) hbb (by omega) (by omega) (by omega)).mono ?_
  rintro r Hc ⟨⟨p1, rfl, p11, p12, p13⟩, hbc, kc⟩
  have lc := kc.1
  have hgc := (kc.2 bm (by omega) (by omega)).trans hgb
  have hc2c : OwnC Hc c2 cs H9.n := OwnS.boxed hc2b kc hbb
  repeat' first
    | refine CO.cons rfl ?_
    | refine CO.nil ?_
    | refine CV.seq ?_
    | refine CV.region callees ?_
    | refine CV.cond ?_
    | refine CV.block ?_
    | refine CV.skip ?_
    | refine CV.exit ?_
    | refine CV.ret ?_
    | refine CV.scope ?_
    | refine CV.draw callees (by decide +kernel) ?_
    | refine CH.cons rfl ?_
    | refine CH.nil ?_
    | refine CO.consG rfl ?_
    | refine CH.consG rfl ?_
    | refine CG.cons rfl ?_
    | refine CR.cons ?_
    | refine CR.nil ?_
    | refine CG.nil ?_
    | refine CG.consG rfl ?_
    | refine ⟨(rfl : plain _ = true), ?_⟩
    | refine ⟨(rfl : nilOk _ = some _), ?_⟩
    | refine ⟨_, ints_len (by assumption), ?_⟩
    | refine ⟨_, ints_addr (by assumption) (by omega) (by omega), ?_⟩
    | refine ⟨_, ints_load (by assumption) (by omega) (by omega), ?_⟩
    | refine ⟨(⟨by omega, by omega⟩ : inI64 _), ?_⟩
    | refine ⟨_, fun tm ha => step1_max rfl (ev_tmp ha rfl) (ev_tmp ha rfl), ?_⟩
    | refine ⟨_, fun tm ha => step1_min rfl (ev_tmp ha rfl) (ev_tmp ha rfl), ?_⟩
    | (refine ⟨_, cell_load ag25 hgc rfl, ?_⟩)
    | (refine ⟨(rfl : _ = c2), ?_⟩)
    | (refine ⟨hc2c.same, ?_⟩)
    | (refine ⟨fun _ => ?_, fun _ => ?_⟩ <;> first | (exfalso; omega) | skip)
    | fail
  refine (bspan_spec hb (by omega) hbc (by omega) (by omega) (by omega)).mono ?_
  rintro r Hd ⟨⟨p2, rfl, p21, p22, p23⟩, hbd, kd⟩
  have ld := kd.1
  have hgd := (kd.2 bm (by omega) (by omega)).trans hgc
  have hc2d : OwnC Hd c2 cs H9.n := OwnS.boxed hc2c kd hbc
  repeat' first
    | refine CO.cons rfl ?_
    | refine CO.nil ?_
    | refine CV.seq ?_
    | refine CV.region callees ?_
    | refine CV.cond ?_
    | refine CV.block ?_
    | refine CV.skip ?_
    | refine CV.exit ?_
    | refine CV.ret ?_
    | refine CV.scope ?_
    | refine CV.draw callees (by decide +kernel) ?_
    | refine CH.cons rfl ?_
    | refine CH.nil ?_
    | refine CO.consG rfl ?_
    | refine CH.consG rfl ?_
    | refine CG.cons rfl ?_
    | refine CR.cons ?_
    | refine CR.nil ?_
    | refine CG.nil ?_
    | refine CG.consG rfl ?_
    | refine ⟨(rfl : plain _ = true), ?_⟩
    | refine ⟨(rfl : nilOk _ = some _), ?_⟩
    | refine ⟨_, ints_len (by assumption), ?_⟩
    | refine ⟨_, ints_addr (by assumption) (by omega) (by omega), ?_⟩
    | refine ⟨_, ints_load (by assumption) (by omega) (by omega), ?_⟩
    | refine ⟨(⟨by omega, by omega⟩ : inI64 _), ?_⟩
    | refine ⟨_, fun tm ha => step1_max rfl (ev_tmp ha rfl) (ev_tmp ha rfl), ?_⟩
    | refine ⟨_, fun tm ha => step1_min rfl (ev_tmp ha rfl) (ev_tmp ha rfl), ?_⟩
    | (refine ⟨_, cell_load ag25 hgd rfl, ?_⟩)
    | (refine ⟨(rfl : _ = c2), ?_⟩)
    | (refine ⟨hc2d.same, ?_⟩)
    | (refine ⟨fun _ => ?_, fun _ => ?_⟩ <;> first | (exfalso; omega) | skip)
    | fail
  refine (bspan_spec hb (by omega) hbd (by omega) (by omega) (by omega)).mono ?_
  rintro r He ⟨⟨p3, rfl, p31, p32, p33⟩, hbe, ke⟩
  have le := ke.1
  have hge := (ke.2 bm (by omega) (by omega)).trans hgd
  have hc2e : OwnC He c2 cs H9.n := OwnS.boxed hc2d ke hbd
  repeat' first
    | refine CO.cons rfl ?_
    | refine CO.nil ?_
    | refine CV.seq ?_
    | refine CV.region callees ?_
    | refine CV.cond ?_
    | refine CV.block ?_
    | refine CV.skip ?_
    | refine CV.exit ?_
    | refine CV.ret ?_
    | refine CV.scope ?_
    | refine CV.draw callees (by decide +kernel) ?_
    | refine CH.cons rfl ?_
    | refine CH.nil ?_
    | refine CO.consG rfl ?_
    | refine CH.consG rfl ?_
    | refine CG.cons rfl ?_
    | refine CR.cons ?_
    | refine CR.nil ?_
    | refine CG.nil ?_
    | refine CG.consG rfl ?_
    | refine ⟨(rfl : plain _ = true), ?_⟩
    | refine ⟨(rfl : nilOk _ = some _), ?_⟩
    | refine ⟨_, ints_len (by assumption), ?_⟩
    | refine ⟨_, ints_addr (by assumption) (by omega) (by omega), ?_⟩
    | refine ⟨_, ints_load (by assumption) (by omega) (by omega), ?_⟩
    | refine ⟨(⟨by omega, by omega⟩ : inI64 _), ?_⟩
    | refine ⟨_, fun tm ha => step1_max rfl (ev_tmp ha rfl) (ev_tmp ha rfl), ?_⟩
    | refine ⟨_, fun tm ha => step1_min rfl (ev_tmp ha rfl) (ev_tmp ha rfl), ?_⟩
    | (refine ⟨_, cell_load ag25 hge rfl, ?_⟩)
    | (refine ⟨(rfl : _ = c2), ?_⟩)
    | (refine ⟨hc2e.same, ?_⟩)
    | (refine ⟨fun _ => ?_, fun _ => ?_⟩ <;> first | (exfalso; omega) | skip)
    | fail
  refine (one_spec hb (by omega) hbe (by omega)).mono ?_
  rintro r Hf ⟨⟨w, rfl⟩, hbf, kf⟩
  have lf := kf.1
  have hgf := (kf.2 bm (by omega) (by omega)).trans hge
  have hc2f : OwnC Hf c2 cs H9.n := OwnS.boxed hc2e kf hbe
  have kbf : KeepX b Hb Hf := (kc.trans kd).trans (ke.trans kf)
  obtain ⟨d, hd⟩ : ∃ d : Co, d = ⟨p1.1, p1.2, p2.1, p2.2, p3.1, p3.2, w⟩ := ⟨_, rfl⟩
  have hds : CoOk d := by
    subst hd
    exact ⟨by omega, by omega, by (show p1.2 ≤ 300); omega, by omega, by omega, by (show p2.2 ≤ 300); omega, by omega, by omega, by (show p3.2 ≤ 1000); omega⟩
  have kM := Keep.new Hf (.cells (Col d) 32 2)
  have hgM : (Hf.new (.cells (Col d) 32 2)).get bm = some (.cells (Fl c2 t2) 25 1) := (kM.2 bm (by omega)).trans hgf
  repeat' first
    | refine CO.cons rfl ?_
    | refine CO.nil ?_
    | refine CV.seq ?_
    | refine CV.region callees ?_
    | refine CV.cond ?_
    | refine CV.block ?_
    | refine CV.skip ?_
    | refine CV.exit ?_
    | refine CV.ret ?_
    | refine CV.scope ?_
    | refine CV.draw callees (by decide +kernel) ?_
    | refine CH.cons rfl ?_
    | refine CH.nil ?_
    | refine CO.consG rfl ?_
    | refine CH.consG rfl ?_
    | refine CG.cons rfl ?_
    | refine CR.cons ?_
    | refine CR.nil ?_
    | refine CG.nil ?_
    | refine CG.consG rfl ?_
    | refine ⟨(rfl : plain _ = true), ?_⟩
    | refine ⟨(rfl : nilOk _ = some _), ?_⟩
    | refine ⟨_, ints_len (by assumption), ?_⟩
    | refine ⟨_, ints_addr (by assumption) (by omega) (by omega), ?_⟩
    | refine ⟨_, ints_load (by assumption) (by omega) (by omega), ?_⟩
    | refine ⟨(⟨by omega, by omega⟩ : inI64 _), ?_⟩
    | refine ⟨_, fun tm ha => step1_max rfl (ev_tmp ha rfl) (ev_tmp ha rfl), ?_⟩
    | refine ⟨_, fun tm ha => step1_min rfl (ev_tmp ha rfl) (ev_tmp ha rfl), ?_⟩
    | (refine ⟨_, cell_load ag25 hgf rfl, ?_⟩)
    | (refine ⟨(rfl : _ = c2), ?_⟩)
    | (refine ⟨hc2f.same, ?_⟩)
    | (refine ⟨_, bu48, ?_⟩)
    | (rw [← hd])
    | (refine ⟨_, _, co_one, ?_⟩)
    | (refine ⟨_, cell_load ag25 hgM rfl, ?_⟩)
    | (refine ⟨fun _ => ?_, fun _ => ?_⟩ <;> first | (exfalso; omega) | skip)
    | fail
  refine co_push hc2f (by omega) (by omega) (by have := hf.n; omega) ?_
  intro c3 Hg hc3g kbg hfg
  have lg := kbg.le
  have bq : ∀ c, blkOf c2 = some c → H9.n ≤ c := fun c hc => (hc2f.lt hc).1
  have hbnf : b < H9.n := hb9n
  have nq : ∀ c, c < H9.n → blkOf c2 ≠ some c := fun c hc h => by have := bq _ h; omega
  have hmq : blkOf c2 ≠ some bm := fun h => by have := (hca.lt h).2; omega
  have hgg := (kbg.get bm (by omega) hmq).trans hgf
  have kbg9 : ∀ c, c < H9.n → c ≠ b → Hg.get c = Hb.get c := fun c hc hcb => (kbg.get c (by omega) (nq c hc)).trans (kbf.2 c (by omega) hcb)
  have hbg := hbf.keepBut kbg (nq b hbnf)
  repeat' first
    | refine CO.cons rfl ?_
    | refine CO.nil ?_
    | refine CV.seq ?_
    | refine CV.region callees ?_
    | refine CV.cond ?_
    | refine CV.block ?_
    | refine CV.skip ?_
    | refine CV.exit ?_
    | refine CV.ret ?_
    | refine CV.scope ?_
    | refine CV.draw callees (by decide +kernel) ?_
    | refine CH.cons rfl ?_
    | refine CH.nil ?_
    | refine CO.consG rfl ?_
    | refine CH.consG rfl ?_
    | refine CG.cons rfl ?_
    | refine CR.cons ?_
    | refine CR.nil ?_
    | refine CG.nil ?_
    | refine CG.consG rfl ?_
    | refine ⟨(rfl : plain _ = true), ?_⟩
    | refine ⟨(rfl : nilOk _ = some _), ?_⟩
    | refine ⟨_, ints_len (by assumption), ?_⟩
    | refine ⟨_, ints_addr (by assumption) (by omega) (by omega), ?_⟩
    | refine ⟨_, ints_load (by assumption) (by omega) (by omega), ?_⟩
    | refine ⟨(⟨by omega, by omega⟩ : inI64 _), ?_⟩
    | refine ⟨_, fun tm ha => step1_max rfl (ev_tmp ha rfl) (ev_tmp ha rfl), ?_⟩
    | refine ⟨_, fun tm ha => step1_min rfl (ev_tmp ha rfl) (ev_tmp ha rfl), ?_⟩
    | (refine ⟨_, fS foF0 (by decide), ?_⟩)
    | (refine ⟨fun _ => ?_, fun _ => ?_⟩ <;> first | (exfalso; omega) | skip)
    | fail
  refine ⟨_, _, store_row (i := 0) sz25 hgg (by show 0 < 2; decide) hc3g.oneC, by omega, ?_⟩
  generalize hsh : Heap.set Hg bm _ = Hh
  have hgh : Hh.get bm = some (.cells (Fl c3 t2) 25 1) := set_get hsh
  have nh := set_n hsh
  have oh := set_old hsh
  have kxh : KeepX bm Hg Hh := ⟨by omega, fun x _ hx => oh x hx⟩
  have hbh := hbg.put (by omega) oh nh
  have hkh := (oh b5 (by omega)).trans ((kbg9 b5 (by omega) (by omega)).trans hkb)
  have hfh := (oh b4 (by omega)).trans ((kbg9 b4 (by omega) (by omega)).trans hfb)
  have hcf : OwnC Hf cv cs _ := OwnS.boxed hcb kbf hbb
  have htf : OwnT Hf tv ts _ := OwnS.boxed htb kbf hbb
  have hpf : OwnO Hf pv ps H7.n := OwnS.boxed hpb kbf hbb
  have ht2f : OwnT Hf t2 ts H9.n := OwnS.boxed ht2b kbf hbb
  have hch : OwnC Hh cv cs H1.n := OwnS.keepX (ownS_keepBt hcf kbg fun c h1 h2 => by have := bq _ h2; have := (hc9.lt h1).2; omega) kxh hgg
  have hth : OwnT Hh tv ts H1.n := OwnS.keepX (ownS_keepBt htf kbg fun c h1 h2 => by have := bq _ h2; have := (ht9.lt h1).2; omega) kxh hgg
  have hph : OwnO Hh pv ps H7.n := OwnS.keepX (ownS_keepBt hpf kbg fun c h1 h2 => by have := bq _ h2; have := (hp9.lt h1).2; omega) kxh hgg
  have ht2g : OwnT Hg t2 ts H9.n := by
    rcases ht2f.2 with h | ⟨b', rfl, h2, h3, h4⟩
    · exact ⟨ht2f.1, .inl h⟩
    · refine ⟨ht2f.1, .inr ⟨b', rfl, h2, by omega, ?_⟩⟩
      rw [kbg.get b' h3 (fun h => hap b' rfl h)]; exact h4
  have ht2h : OwnT Hh t2 ts H9.n := OwnS.keepX ht2g kxh hgg
  have hc3h : OwnC Hh c3 (cs ++ [d]) H9.n := OwnS.keepX hc3g kxh hgg
  have hpsm := hpo.n
  repeat' first
    | refine CO.cons rfl ?_
    | refine CO.nil ?_
    | refine CV.seq ?_
    | refine CV.region callees ?_
    | refine CV.cond ?_
    | refine CV.block ?_
    | refine CV.skip ?_
    | refine CV.exit ?_
    | refine CV.ret ?_
    | refine CV.scope ?_
    | refine CV.draw callees (by decide +kernel) ?_
    | refine CH.cons rfl ?_
    | refine CH.nil ?_
    | refine CO.consG rfl ?_
    | refine CH.consG rfl ?_
    | refine CG.cons rfl ?_
    | refine CR.cons ?_
    | refine CR.nil ?_
    | refine CG.nil ?_
    | refine CG.consG rfl ?_
    | refine ⟨(rfl : plain _ = true), ?_⟩
    | refine ⟨(rfl : nilOk _ = some _), ?_⟩
    | refine ⟨_, ints_len (by assumption), ?_⟩
    | refine ⟨_, ints_addr (by assumption) (by omega) (by omega), ?_⟩
    | refine ⟨_, ints_load (by assumption) (by omega) (by omega), ?_⟩
    | refine ⟨(⟨by omega, by omega⟩ : inI64 _), ?_⟩
    | refine ⟨_, fun tm ha => step1_max rfl (ev_tmp ha rfl) (ev_tmp ha rfl), ?_⟩
    | refine ⟨_, fun tm ha => step1_min rfl (ev_tmp ha rfl) (ev_tmp ha rfl), ?_⟩
    | (refine ⟨fun _ => ?_, fun _ => ?_⟩ <;> first | (exfalso; omega) | skip)
    | fail
  refine (ownPours_spec (by omega) hph.row (by omega)).mono ?_
  rintro qv Hi ⟨hqi, ki⟩
  have li := ki.1
  have hpqs : ∀ c, blkOf pv = some c → c < Hh.n := fun c hc => (hph.lt hc).2
  repeat' first
    | refine CO.cons rfl ?_
    | refine CO.nil ?_
    | refine CV.seq ?_
    | refine CV.region callees ?_
    | refine CV.cond ?_
    | refine CV.block ?_
    | refine CV.skip ?_
    | refine CV.exit ?_
    | refine CV.ret ?_
    | refine CV.scope ?_
    | refine CV.draw callees (by decide +kernel) ?_
    | refine CH.cons rfl ?_
    | refine CH.nil ?_
    | refine CO.consG rfl ?_
    | refine CH.consG rfl ?_
    | refine CG.cons rfl ?_
    | refine CR.cons ?_
    | refine CR.nil ?_
    | refine CG.nil ?_
    | refine CG.consG rfl ?_
    | refine ⟨(rfl : plain _ = true), ?_⟩
    | refine ⟨(rfl : nilOk _ = some _), ?_⟩
    | refine ⟨_, ints_len (by assumption), ?_⟩
    | refine ⟨_, ints_addr (by assumption) (by omega) (by omega), ?_⟩
    | refine ⟨_, ints_load (by assumption) (by omega) (by omega), ?_⟩
    | refine ⟨(⟨by omega, by omega⟩ : inI64 _), ?_⟩
    | refine ⟨_, fun tm ha => step1_max rfl (ev_tmp ha rfl) (ev_tmp ha rfl), ?_⟩
    | refine ⟨_, fun tm ha => step1_min rfl (ev_tmp ha rfl) (ev_tmp ha rfl), ?_⟩
    | (refine ⟨fun _ => ?_, fun _ => ?_⟩ <;> first | (exfalso; omega) | skip)
    | fail
  refine CV.loopc ?_
  refine WCv.rounds callees false (α := Nat × List Po) (fun (i, qs) => [(3, bp b), (4, .pointer (some ⟨b4, 0, none⟩)), (5, .pointer (some ⟨b5, 0, none⟩)), (6, pv), (7, VJ (mN : Int)), (8, .pointer (some ⟨bm, 0, none⟩)), (9, qv), (10, VJ i)]) (fun (i, qs) Hz => i ≤ ps.length ∧ (qs.length = ps.length ∧ ∀ j, j < ps.length → qs[j]!.mi = ps[j]!.mi ∧ qs[j]!.la = ps[j]!.la ∧ ps[j]!.wm ≤ qs[j]!.wm ∧ qs[j]!.wm ≤ 1000) ∧ OwnO Hz qv qs Hh.n ∧ (Hz.get b5 = some (.cells (Kel k) 29 1) ∧ Hz.get b4 = some (.cells (Fl cv tv) 25 1) ∧ Hz.get bm = some (.cells (Fl c3 t2) 25 1)) ∧ (OwnC Hz cv cs H1.n ∧ OwnT Hz tv ts H1.n ∧ OwnO Hz pv ps H7.n ∧ OwnC Hz c3 (cs ++ [d]) H9.n ∧ OwnT Hz t2 ts H9.n) ∧ Box b Hz ∧ Hh.n ≤ Hz.n) (fun (i, qs) => ps.length - i) (0, ps) (by repeat' first | exact trivial | refine ⟨rfl, ?_⟩ | refine ⟨slot_int (by (try simp only [Int.toNat_natCast]); omega), ?_⟩) ?_ ?_
  · exact ⟨by omega, ⟨rfl, fun j hj => ⟨rfl, rfl, Int.le_refl _, (hpo.wm j hj).2⟩⟩, hqi, ⟨(ki.2 b5 (by omega)).trans hkh, (ki.2 b4 (by omega)).trans hfh, (ki.2 bm (by omega)).trans hgh⟩, ⟨OwnS.keep hch ki, OwnS.keep hth ki, OwnS.keep hph ki, OwnS.keep hc3h ki, OwnS.keep ht2h ki⟩, hbh.keep ki, by omega⟩
  rintro ⟨i, qs⟩ Hx ⟨hi, ⟨hql, hqs⟩, hqx, ⟨hkx, hfx, hmx⟩, ⟨hcx, htx, hpx, hc3x, ht2x⟩, hbx, lx⟩ hBx
  have hqq : ∀ c, blkOf qv = some c → Hh.n ≤ c := fun c hc => (hqx.lt hc).1
  have nop : ∀ c, c < Hh.n → blkOf qv ≠ some c := fun c hc h => by have := hqq _ h; omega
  by_cases hi2 : i < ps.length
  · have hiq : i < qs.length := by omega
    have h0 := hqs i hi2
    have h00 := hpo.wm i hi2
    have hiq2 : (qs[i]!).wm ≤ 1000 := h0.2.2.2
    repeat' first
      | refine CO.cons rfl ?_
      | refine CO.nil ?_
      | refine CV.seq ?_
      | refine CV.region callees ?_
      | refine CV.cond ?_
      | refine CV.block ?_
      | refine CV.skip ?_
      | refine CV.exit ?_
      | refine CV.ret ?_
      | refine CV.scope ?_
      | refine CV.draw callees (by decide +kernel) ?_
      | refine CH.cons rfl ?_
      | refine CH.nil ?_
      | refine CO.consG rfl ?_
      | refine CH.consG rfl ?_
      | refine CG.cons rfl ?_
      | refine CR.cons ?_
      | refine CR.nil ?_
      | refine CG.nil ?_
      | refine CG.consG rfl ?_
      | refine ⟨(rfl : plain _ = true), ?_⟩
      | refine ⟨(rfl : nilOk _ = some _), ?_⟩
      | refine ⟨_, ints_len (by assumption), ?_⟩
      | refine ⟨_, ints_addr (by assumption) (by omega) (by omega), ?_⟩
      | refine ⟨_, ints_load (by assumption) (by omega) (by omega), ?_⟩
      | refine ⟨(⟨by omega, by omega⟩ : inI64 _), ?_⟩
      | refine ⟨_, fun tm ha => step1_max rfl (ev_tmp ha rfl) (ev_tmp ha rfl), ?_⟩
      | refine ⟨_, fun tm ha => step1_min rfl (ev_tmp ha rfl) (ev_tmp ha rfl), ?_⟩
      | (refine ⟨_, po_len hqx.row, ?_⟩)
      | (refine ⟨_, po_addr hqx.row (by omega) (by omega), ?_⟩)
      | (refine ⟨_, po_f hqx.row foO2 (by decide) hiq, ?_⟩)
      | (refine ⟨_, po_w hqx.row hiq, ?_⟩)
      | (refine ⟨fun _ => ?_, fun _ => ?_⟩ <;> first | (exfalso; omega) | skip)
      | fail
    refine (any_spec (l := qs[i]!.wm) hb (by omega) hbx (by omega) (by omega) (by omega)).mono ?_
    rintro r Hj ⟨⟨x, rfl, xx1, xx2⟩, hbj, kj⟩
    have lj := kj.1
    have hqj : OwnO Hj qv qs Hh.n := OwnS.boxed hqx kj hbx
    repeat' first
      | refine CO.cons rfl ?_
      | refine CO.nil ?_
      | refine CV.seq ?_
      | refine CV.region callees ?_
      | refine CV.cond ?_
      | refine CV.block ?_
      | refine CV.skip ?_
      | refine CV.exit ?_
      | refine CV.ret ?_
      | refine CV.scope ?_
      | refine CV.draw callees (by decide +kernel) ?_
      | refine CH.cons rfl ?_
      | refine CH.nil ?_
      | refine CO.consG rfl ?_
      | refine CH.consG rfl ?_
      | refine CG.cons rfl ?_
      | refine CR.cons ?_
      | refine CR.nil ?_
      | refine CG.nil ?_
      | refine CG.consG rfl ?_
      | refine ⟨(rfl : plain _ = true), ?_⟩
      | refine ⟨(rfl : nilOk _ = some _), ?_⟩
      | refine ⟨_, ints_len (by assumption), ?_⟩
      | refine ⟨_, ints_addr (by assumption) (by omega) (by omega), ?_⟩
      | refine ⟨_, ints_load (by assumption) (by omega) (by omega), ?_⟩
      | refine ⟨(⟨by omega, by omega⟩ : inI64 _), ?_⟩
      | refine ⟨_, fun tm ha => step1_max rfl (ev_tmp ha rfl) (ev_tmp ha rfl), ?_⟩
      | refine ⟨_, fun tm ha => step1_min rfl (ev_tmp ha rfl) (ev_tmp ha rfl), ?_⟩
      | (refine ⟨_, po_addr hqj.row (by omega) (by omega), ?_⟩)
      | (refine ⟨_, po_f hqj.row foO2 (by decide) hiq, ?_⟩)
      | (refine ⟨fun _ => ?_, fun _ => ?_⟩ <;> first | (exfalso; omega) | skip)
      | fail
    refine fstore_askS (r := Pol qs[i]!) (j := i) (o := 2) (w := VJ x) sz3 hqj (by omega) (po_at hiq) (by decide) rfl ?_
    intro Hk hqk0 kbk
    have lk := kbk.le
    have hset : (qs.map Pol).set i ((Pol qs[i]!).set 2 (VJ x)) = (qs.set i ⟨qs[i]!.mi, qs[i]!.la, x⟩).map Pol := by rw [List.map_set]; rfl
    have hqk : OwnO Hk qv (qs.set i ⟨qs[i]!.mi, qs[i]!.la, x⟩) Hh.n := by rw [OwnO, ← hset]; exact hqk0
    have get' : ∀ c, c < Hh.n → c ≠ b → Hk.get c = Hx.get c := fun c hc hcb => (kbk.get c (by omega) (nop c hc)).trans (kj.2 c (by omega) hcb)
    repeat' first
      | refine CO.cons rfl ?_
      | refine CO.nil ?_
      | refine CV.seq ?_
      | refine CV.region callees ?_
      | refine CV.cond ?_
      | refine CV.block ?_
      | refine CV.skip ?_
      | refine CV.exit ?_
      | refine CV.ret ?_
      | refine CV.scope ?_
      | refine CV.draw callees (by decide +kernel) ?_
      | refine CH.cons rfl ?_
      | refine CH.nil ?_
      | refine CO.consG rfl ?_
      | refine CH.consG rfl ?_
      | refine CG.cons rfl ?_
      | refine CR.cons ?_
      | refine CR.nil ?_
      | refine CG.nil ?_
      | refine CG.consG rfl ?_
      | refine ⟨(rfl : plain _ = true), ?_⟩
      | refine ⟨(rfl : nilOk _ = some _), ?_⟩
      | refine ⟨_, ints_len (by assumption), ?_⟩
      | refine ⟨_, ints_addr (by assumption) (by omega) (by omega), ?_⟩
      | refine ⟨_, ints_load (by assumption) (by omega) (by omega), ?_⟩
      | refine ⟨(⟨by omega, by omega⟩ : inI64 _), ?_⟩
      | refine ⟨_, fun tm ha => step1_max rfl (ev_tmp ha rfl) (ev_tmp ha rfl), ?_⟩
      | refine ⟨_, fun tm ha => step1_min rfl (ev_tmp ha rfl) (ev_tmp ha rfl), ?_⟩
      | (refine ⟨fun _ => ?_, fun _ => ?_⟩ <;> first | (exfalso; omega) | skip)
      | fail
    refine ⟨(i + 1, qs.set i ⟨qs[i]!.mi, qs[i]!.la, x⟩), (by repeat' first | exact trivial | refine ⟨rfl, ?_⟩ | refine ⟨slot_int (by (try simp only [Int.toNat_natCast]); omega), ?_⟩), (by (try dsimp only); omega), ?_⟩
    refine ⟨by omega, ⟨by rw [List.length_set]; exact hql, fun j hj => ?_⟩, hqk, ⟨(get' b5 (by omega) (by omega)).trans hkx, (get' b4 (by omega) (by omega)).trans hfx, (get' bm (by omega) (by omega)).trans hmx⟩, ⟨ownS_keepBt (OwnS.boxed hcx kj hbx) kbk (fun c h1 h2 => by have := hqq _ h2; have := (hch.lt h1).2; omega), ownS_keepBt (OwnS.boxed htx kj hbx) kbk (fun c h1 h2 => by have := hqq _ h2; have := (hth.lt h1).2; omega), ownS_keepBt (OwnS.boxed hpx kj hbx) kbk (fun c h1 h2 => by have := hqq _ h2; have := hpqs _ h1; omega), ownS_keepBt (OwnS.boxed hc3x kj hbx) kbk (fun c h1 h2 => by have := hqq _ h2; have := (hc3h.lt h1).2; omega), ownS_keepBt (OwnS.boxed ht2x kj hbx) kbk (fun c h1 h2 => by have := hqq _ h2; have := (ht2h.lt h1).2; omega)⟩, hbj.keepBut kbk (nop b (by omega)), by omega⟩
    show (qs.set i ⟨qs[i]!.mi, qs[i]!.la, x⟩)[j]!.mi = _ ∧ (qs.set i ⟨qs[i]!.mi, qs[i]!.la, x⟩)[j]!.la = _ ∧ _ ≤ (qs.set i ⟨qs[i]!.mi, qs[i]!.la, x⟩)[j]!.wm ∧ (qs.set i ⟨qs[i]!.mi, qs[i]!.la, x⟩)[j]!.wm ≤ 1000
    rw [getElem!_pos (qs.set i _) j (by rw [List.length_set]; omega), List.getElem_set]
    have h1 := hqs j hj
    split
    · rename_i hij
      subst hij
      exact ⟨h1.1, h1.2.1, by (show _ ≤ x); omega, xx2⟩
    · rw [getElem!_pos qs j (by omega)] at h1
      exact h1
  obtain rfl : i = ps.length := by omega
  have hpq : POk k.wa qs := pok_wm2 hpo hql hqs
  have hfd := fok_snoc (c := d) hf (by omega) hds
  obtain ⟨B0, hB0⟩ := isBeg_ex (e := 0) hf
  obtain ⟨B1, hB1⟩ := isBeg_ex (e := 1) hf
  have hD0 := beg_snoc (c := d) hf hB0
  have hD1 := beg_snoc (c := d) hf hB1
  repeat' first
    | refine CO.cons rfl ?_
    | refine CO.nil ?_
    | refine CV.seq ?_
    | refine CV.region callees ?_
    | refine CV.cond ?_
    | refine CV.block ?_
    | refine CV.skip ?_
    | refine CV.exit ?_
    | refine CV.ret ?_
    | refine CV.scope ?_
    | refine CV.draw callees (by decide +kernel) ?_
    | refine CH.cons rfl ?_
    | refine CH.nil ?_
    | refine CO.consG rfl ?_
    | refine CH.consG rfl ?_
    | refine CG.cons rfl ?_
    | refine CR.cons ?_
    | refine CR.nil ?_
    | refine CG.nil ?_
    | refine CG.consG rfl ?_
    | refine ⟨(rfl : plain _ = true), ?_⟩
    | refine ⟨(rfl : nilOk _ = some _), ?_⟩
    | refine ⟨_, ints_len (by assumption), ?_⟩
    | refine ⟨_, ints_addr (by assumption) (by omega) (by omega), ?_⟩
    | refine ⟨_, ints_load (by assumption) (by omega) (by omega), ?_⟩
    | refine ⟨(⟨by omega, by omega⟩ : inI64 _), ?_⟩
    | refine ⟨_, fun tm ha => step1_max rfl (ev_tmp ha rfl) (ev_tmp ha rfl), ?_⟩
    | refine ⟨_, fun tm ha => step1_min rfl (ev_tmp ha rfl) (ev_tmp ha rfl), ?_⟩
    | (refine ⟨_, po_len hqx.row, ?_⟩)
    | (refine ⟨_, ld51 hkx, ?_⟩)
    | (refine ⟨_, ld28 hfx, ?_⟩)
    | (refine ⟨fun _ => ?_, fun _ => ?_⟩ <;> first | (exfalso; omega) | skip)
    | fail
  refine (run_spec (m := mN) (by omega) hk hcx.row htx.row hpx.row hpo hpx.same hf hB0 hB1 (by omega)).mono ?_
  rintro r Hl1 ⟨⟨q1, rfl, hq1⟩, kl⟩
  have ll := kl.1
  repeat' first
    | refine CO.cons rfl ?_
    | refine CO.nil ?_
    | refine CV.seq ?_
    | refine CV.region callees ?_
    | refine CV.cond ?_
    | refine CV.block ?_
    | refine CV.skip ?_
    | refine CV.exit ?_
    | refine CV.ret ?_
    | refine CV.scope ?_
    | refine CV.draw callees (by decide +kernel) ?_
    | refine CH.cons rfl ?_
    | refine CH.nil ?_
    | refine CO.consG rfl ?_
    | refine CH.consG rfl ?_
    | refine CG.cons rfl ?_
    | refine CR.cons ?_
    | refine CR.nil ?_
    | refine CG.nil ?_
    | refine CG.consG rfl ?_
    | refine ⟨(rfl : plain _ = true), ?_⟩
    | refine ⟨(rfl : nilOk _ = some _), ?_⟩
    | refine ⟨_, ints_len (by assumption), ?_⟩
    | refine ⟨_, ints_addr (by assumption) (by omega) (by omega), ?_⟩
    | refine ⟨_, ints_load (by assumption) (by omega) (by omega), ?_⟩
    | refine ⟨(⟨by omega, by omega⟩ : inI64 _), ?_⟩
    | refine ⟨_, fun tm ha => step1_max rfl (ev_tmp ha rfl) (ev_tmp ha rfl), ?_⟩
    | refine ⟨_, fun tm ha => step1_min rfl (ev_tmp ha rfl) (ev_tmp ha rfl), ?_⟩
    | (refine ⟨_, ld51 ((kl.2 b5 (by omega)).trans hkx), ?_⟩)
    | (refine ⟨_, ld28 ((kl.2 bm (by omega)).trans hmx), ?_⟩)
    | (refine ⟨fun _ => ?_, fun _ => ?_⟩ <;> first | (exfalso; omega) | skip)
    | fail
  refine (run_spec (m := mN) (by omega) hk (OwnS.keep hc3x kl).row (OwnS.keep ht2x kl).row (OwnS.keep hpx kl).row hpo hpx.same hfd hD0 hD1 (by omega)).mono ?_
  rintro r Hl2 ⟨⟨q2, rfl, hq2⟩, kl2⟩
  have ll2 := kl2.1
  have kx2 := kl.trans kl2
  repeat' first
    | refine CO.cons rfl ?_
    | refine CO.nil ?_
    | refine CV.seq ?_
    | refine CV.region callees ?_
    | refine CV.cond ?_
    | refine CV.block ?_
    | refine CV.skip ?_
    | refine CV.exit ?_
    | refine CV.ret ?_
    | refine CV.scope ?_
    | refine CV.draw callees (by decide +kernel) ?_
    | refine CH.cons rfl ?_
    | refine CH.nil ?_
    | refine CO.consG rfl ?_
    | refine CH.consG rfl ?_
    | refine CG.cons rfl ?_
    | refine CR.cons ?_
    | refine CR.nil ?_
    | refine CG.nil ?_
    | refine CG.consG rfl ?_
    | refine ⟨(rfl : plain _ = true), ?_⟩
    | refine ⟨(rfl : nilOk _ = some _), ?_⟩
    | refine ⟨_, ints_len (by assumption), ?_⟩
    | refine ⟨_, ints_addr (by assumption) (by omega) (by omega), ?_⟩
    | refine ⟨_, ints_load (by assumption) (by omega) (by omega), ?_⟩
    | refine ⟨(⟨by omega, by omega⟩ : inI64 _), ?_⟩
    | refine ⟨_, fun tm ha => step1_max rfl (ev_tmp ha rfl) (ev_tmp ha rfl), ?_⟩
    | refine ⟨_, fun tm ha => step1_min rfl (ev_tmp ha rfl) (ev_tmp ha rfl), ?_⟩
    | (refine ⟨_, ld51 ((kx2.2 b5 (by omega)).trans hkx), ?_⟩)
    | (refine ⟨_, ld28 ((kx2.2 b4 (by omega)).trans hfx), ?_⟩)
    | (refine ⟨fun _ => ?_, fun _ => ?_⟩ <;> first | (exfalso; omega) | skip)
    | fail
  refine (run_spec (m := mN) (by omega) hk (OwnS.keep hcx kx2).row (OwnS.keep htx kx2).row (OwnS.keep hqx kx2).row hpq hqx.same hf hB0 hB1 (by omega)).mono ?_
  rintro r Hl3 ⟨⟨q3, rfl, hq3⟩, kl3⟩
  have ll3 := kl3.1
  have kx3 := kx2.trans kl3
  have w1 := warmL_len (k := k) (E := emL cs B0 B1) (ps := ps) (n := mN + 1)
  have w3 := warmL_len (k := k) (E := emL cs B0 B1) (ps := qs) (n := mN + 1)
  have hr1 := (OwnS.keep (OwnS.keep hq1 kl2) kl3).row
  have hr2 := (OwnS.keep hq2 kl3).row
  have hr3 := hq3.row
  generalize hE' : emL (cs ++ [d]) _ _ = E' at hr2 ⊢
  have w2 := warmL_len (k := k) (E := E') (ps := ps) (n := mN + 1)
  repeat' first
    | refine CO.cons rfl ?_
    | refine CO.nil ?_
    | refine CV.seq ?_
    | refine CV.region callees ?_
    | refine CV.cond ?_
    | refine CV.block ?_
    | refine CV.skip ?_
    | refine CV.exit ?_
    | refine CV.ret ?_
    | refine CV.scope ?_
    | refine CV.draw callees (by decide +kernel) ?_
    | refine CH.cons rfl ?_
    | refine CH.nil ?_
    | refine CO.consG rfl ?_
    | refine CH.consG rfl ?_
    | refine CG.cons rfl ?_
    | refine CR.cons ?_
    | refine CR.nil ?_
    | refine CG.nil ?_
    | refine CG.consG rfl ?_
    | refine ⟨(rfl : plain _ = true), ?_⟩
    | refine ⟨(rfl : nilOk _ = some _), ?_⟩
    | refine ⟨_, ints_len (by assumption), ?_⟩
    | refine ⟨_, ints_addr (by assumption) (by omega) (by omega), ?_⟩
    | refine ⟨_, ints_load (by assumption) (by omega) (by omega), ?_⟩
    | refine ⟨(⟨by omega, by omega⟩ : inI64 _), ?_⟩
    | refine ⟨_, fun tm ha => step1_max rfl (ev_tmp ha rfl) (ev_tmp ha rfl), ?_⟩
    | refine ⟨_, fun tm ha => step1_min rfl (ev_tmp ha rfl) (ev_tmp ha rfl), ?_⟩
    | (refine ⟨_, sp_len hr1, ?_⟩)
    | (refine ⟨_, sp_len hr2, ?_⟩)
    | (refine ⟨_, sp_len hr3, ?_⟩)
    | (refine ⟨fun _ => ?_, fun _ => ?_⟩ <;> first | (exfalso; omega) | skip)
    | fail
  refine CV.loopc ?_
  refine WCv.rounds callees false (α := Nat) (fun m => [(4, .pointer (some ⟨b4, 0, none⟩)), (7, VJ (mN : Int)), (8, .pointer (some ⟨bm, 0, none⟩)), (11, q1), (13, q2), (15, q3), (17, VJ m)]) (fun m Hz => m ≤ mN + 1 ∧ Keep Hl3 Hz) (fun m => mN + 1 - m) (0) (by repeat' first | exact trivial | refine ⟨rfl, ?_⟩ | refine ⟨slot_int (by (try simp only [Int.toNat_natCast]); omega), ?_⟩) ?_ ?_
  · exact ⟨by omega, Keep.refl _⟩
  rintro m Hy ⟨hm3, ky⟩ hBy
  have ly := ky.1
  have kxy := kx3.trans ky
  by_cases hm2 : m ≤ mN
  · repeat' first
      | refine CO.cons rfl ?_
      | refine CO.nil ?_
      | refine CV.seq ?_
      | refine CV.region callees ?_
      | refine CV.cond ?_
      | refine CV.block ?_
      | refine CV.skip ?_
      | refine CV.exit ?_
      | refine CV.ret ?_
      | refine CV.scope ?_
      | refine CV.draw callees (by decide +kernel) ?_
      | refine CH.cons rfl ?_
      | refine CH.nil ?_
      | refine CO.consG rfl ?_
      | refine CH.consG rfl ?_
      | refine CG.cons rfl ?_
      | refine CR.cons ?_
      | refine CR.nil ?_
      | refine CG.nil ?_
      | refine CG.consG rfl ?_
      | refine ⟨(rfl : plain _ = true), ?_⟩
      | refine ⟨(rfl : nilOk _ = some _), ?_⟩
      | refine ⟨_, ints_len (by assumption), ?_⟩
      | refine ⟨_, ints_addr (by assumption) (by omega) (by omega), ?_⟩
      | refine ⟨_, ints_load (by assumption) (by omega) (by omega), ?_⟩
      | refine ⟨(⟨by omega, by omega⟩ : inI64 _), ?_⟩
      | refine ⟨_, fun tm ha => step1_max rfl (ev_tmp ha rfl) (ev_tmp ha rfl), ?_⟩
      | refine ⟨_, fun tm ha => step1_min rfl (ev_tmp ha rfl) (ev_tmp ha rfl), ?_⟩
      | (refine ⟨_, ld28 ((kxy.2 b4 (by omega)).trans hfx), ?_⟩)
      | (refine ⟨fun _ => ?_, fun _ => ?_⟩ <;> first | (exfalso; omega) | skip)
      | fail
    refine (heat_spec (m := (m : Int)) (by omega) (OwnS.keep hcx kxy).row (OwnS.keep htx kxy).row hf hB0 hB1 (by omega) (by omega)).mono ?_
    rintro r Hp ⟨rfl, kp⟩
    have lp := kp.1
    repeat' first
      | refine CO.cons rfl ?_
      | refine CO.nil ?_
      | refine CV.seq ?_
      | refine CV.region callees ?_
      | refine CV.cond ?_
      | refine CV.block ?_
      | refine CV.skip ?_
      | refine CV.exit ?_
      | refine CV.ret ?_
      | refine CV.scope ?_
      | refine CV.draw callees (by decide +kernel) ?_
      | refine CH.cons rfl ?_
      | refine CH.nil ?_
      | refine CO.consG rfl ?_
      | refine CH.consG rfl ?_
      | refine CG.cons rfl ?_
      | refine CR.cons ?_
      | refine CR.nil ?_
      | refine CG.nil ?_
      | refine CG.consG rfl ?_
      | refine ⟨(rfl : plain _ = true), ?_⟩
      | refine ⟨(rfl : nilOk _ = some _), ?_⟩
      | refine ⟨_, ints_len (by assumption), ?_⟩
      | refine ⟨_, ints_addr (by assumption) (by omega) (by omega), ?_⟩
      | refine ⟨_, ints_load (by assumption) (by omega) (by omega), ?_⟩
      | refine ⟨(⟨by omega, by omega⟩ : inI64 _), ?_⟩
      | refine ⟨_, fun tm ha => step1_max rfl (ev_tmp ha rfl) (ev_tmp ha rfl), ?_⟩
      | refine ⟨_, fun tm ha => step1_min rfl (ev_tmp ha rfl) (ev_tmp ha rfl), ?_⟩
      | (refine ⟨_, _, al41, ?_⟩)
      | (refine ⟨fun _ => ?_, fun _ => ?_⟩ <;> first | (exfalso; omega) | skip)
      | fail
    generalize hss : Heap.new Hp _ = Hs
    have hgs := new_get hss
    have ks := new_keep hss
    have ns := new_n hss
    obtain ⟨bs, hbns⟩ : ∃ b, Heap.n Hp = b := ⟨_, rfl⟩
    rw [hbns] at hgs ns ⊢
    repeat' first
      | refine CO.cons rfl ?_
      | refine CO.nil ?_
      | refine CV.seq ?_
      | refine CV.region callees ?_
      | refine CV.cond ?_
      | refine CV.block ?_
      | refine CV.skip ?_
      | refine CV.exit ?_
      | refine CV.ret ?_
      | refine CV.scope ?_
      | refine CV.draw callees (by decide +kernel) ?_
      | refine CH.cons rfl ?_
      | refine CH.nil ?_
      | refine CO.consG rfl ?_
      | refine CH.consG rfl ?_
      | refine CG.cons rfl ?_
      | refine CR.cons ?_
      | refine CR.nil ?_
      | refine CG.nil ?_
      | refine CG.consG rfl ?_
      | refine ⟨(rfl : plain _ = true), ?_⟩
      | refine ⟨(rfl : nilOk _ = some _), ?_⟩
      | refine ⟨_, ints_len (by assumption), ?_⟩
      | refine ⟨_, ints_addr (by assumption) (by omega) (by omega), ?_⟩
      | refine ⟨_, ints_load (by assumption) (by omega) (by omega), ?_⟩
      | refine ⟨(⟨by omega, by omega⟩ : inI64 _), ?_⟩
      | refine ⟨_, fun tm ha => step1_max rfl (ev_tmp ha rfl) (ev_tmp ha rfl), ?_⟩
      | refine ⟨_, fun tm ha => step1_min rfl (ev_tmp ha rfl) (ev_tmp ha rfl), ?_⟩
      | (refine ⟨fun _ => ?_, fun _ => ?_⟩ <;> first | (exfalso; omega) | skip)
      | fail
    refine ⟨_, _, st41 hgs, by omega, ?_⟩
    generalize hst : Heap.set Hs bs _ = Ht
    have hgt : Ht.get bs = some (.cells (Hl (heatL (emL cs B0 B1) m)) 27 1) := set_get hst
    have nt := set_n hst
    have ot := set_old hst
    have kt : Keep Hp Ht := keep_put ks (by omega) ot nt
    have lt := kt.1
    have kyt := kp.trans kt
    have kxt := kxy.trans kyt
    repeat' first
      | refine CO.cons rfl ?_
      | refine CO.nil ?_
      | refine CV.seq ?_
      | refine CV.region callees ?_
      | refine CV.cond ?_
      | refine CV.block ?_
      | refine CV.skip ?_
      | refine CV.exit ?_
      | refine CV.ret ?_
      | refine CV.scope ?_
      | refine CV.draw callees (by decide +kernel) ?_
      | refine CH.cons rfl ?_
      | refine CH.nil ?_
      | refine CO.consG rfl ?_
      | refine CH.consG rfl ?_
      | refine CG.cons rfl ?_
      | refine CR.cons ?_
      | refine CR.nil ?_
      | refine CG.nil ?_
      | refine CG.consG rfl ?_
      | refine ⟨(rfl : plain _ = true), ?_⟩
      | refine ⟨(rfl : nilOk _ = some _), ?_⟩
      | refine ⟨_, ints_len (by assumption), ?_⟩
      | refine ⟨_, ints_addr (by assumption) (by omega) (by omega), ?_⟩
      | refine ⟨_, ints_load (by assumption) (by omega) (by omega), ?_⟩
      | refine ⟨(⟨by omega, by omega⟩ : inI64 _), ?_⟩
      | refine ⟨_, fun tm ha => step1_max rfl (ev_tmp ha rfl) (ev_tmp ha rfl), ?_⟩
      | refine ⟨_, fun tm ha => step1_min rfl (ev_tmp ha rfl) (ev_tmp ha rfl), ?_⟩
      | (refine ⟨_, ld28 ((kxt.2 bm (by omega)).trans hmx), ?_⟩)
      | (refine ⟨fun _ => ?_, fun _ => ?_⟩ <;> first | (exfalso; omega) | skip)
      | fail
    refine (heat_spec (m := (m : Int)) (by omega) (OwnS.keep hc3x kxt).row (OwnS.keep ht2x kxt).row hfd hD0 hD1 (by omega) (by omega)).mono ?_
    rintro r Hu ⟨rfl, ku⟩
    have lu := ku.1
    have hgu := (ku.2 bs (by omega)).trans hgt
    rw [hE']
    repeat' first
      | refine CO.cons rfl ?_
      | refine CO.nil ?_
      | refine CV.seq ?_
      | refine CV.region callees ?_
      | refine CV.cond ?_
      | refine CV.block ?_
      | refine CV.skip ?_
      | refine CV.exit ?_
      | refine CV.ret ?_
      | refine CV.scope ?_
      | refine CV.draw callees (by decide +kernel) ?_
      | refine CH.cons rfl ?_
      | refine CH.nil ?_
      | refine CO.consG rfl ?_
      | refine CH.consG rfl ?_
      | refine CG.cons rfl ?_
      | refine CR.cons ?_
      | refine CR.nil ?_
      | refine CG.nil ?_
      | refine CG.consG rfl ?_
      | refine ⟨(rfl : plain _ = true), ?_⟩
      | refine ⟨(rfl : nilOk _ = some _), ?_⟩
      | refine ⟨_, ints_len (by assumption), ?_⟩
      | refine ⟨_, ints_addr (by assumption) (by omega) (by omega), ?_⟩
      | refine ⟨_, ints_load (by assumption) (by omega) (by omega), ?_⟩
      | refine ⟨(⟨by omega, by omega⟩ : inI64 _), ?_⟩
      | refine ⟨_, fun tm ha => step1_max rfl (ev_tmp ha rfl) (ev_tmp ha rfl), ?_⟩
      | refine ⟨_, fun tm ha => step1_min rfl (ev_tmp ha rfl) (ev_tmp ha rfl), ?_⟩
      | (refine ⟨_, _, al41, ?_⟩)
      | (refine ⟨fun _ => ?_, fun _ => ?_⟩ <;> first | (exfalso; omega) | skip)
      | fail
    generalize hsv : Heap.new Hu _ = Hv
    have hgv := new_get hsv
    have kv := new_keep hsv
    have nv := new_n hsv
    obtain ⟨bv, hbnv⟩ : ∃ b, Heap.n Hu = b := ⟨_, rfl⟩
    rw [hbnv] at hgv nv ⊢
    repeat' first
      | refine CO.cons rfl ?_
      | refine CO.nil ?_
      | refine CV.seq ?_
      | refine CV.region callees ?_
      | refine CV.cond ?_
      | refine CV.block ?_
      | refine CV.skip ?_
      | refine CV.exit ?_
      | refine CV.ret ?_
      | refine CV.scope ?_
      | refine CV.draw callees (by decide +kernel) ?_
      | refine CH.cons rfl ?_
      | refine CH.nil ?_
      | refine CO.consG rfl ?_
      | refine CH.consG rfl ?_
      | refine CG.cons rfl ?_
      | refine CR.cons ?_
      | refine CR.nil ?_
      | refine CG.nil ?_
      | refine CG.consG rfl ?_
      | refine ⟨(rfl : plain _ = true), ?_⟩
      | refine ⟨(rfl : nilOk _ = some _), ?_⟩
      | refine ⟨_, ints_len (by assumption), ?_⟩
      | refine ⟨_, ints_addr (by assumption) (by omega) (by omega), ?_⟩
      | refine ⟨_, ints_load (by assumption) (by omega) (by omega), ?_⟩
      | refine ⟨(⟨by omega, by omega⟩ : inI64 _), ?_⟩
      | refine ⟨_, fun tm ha => step1_max rfl (ev_tmp ha rfl) (ev_tmp ha rfl), ?_⟩
      | refine ⟨_, fun tm ha => step1_min rfl (ev_tmp ha rfl) (ev_tmp ha rfl), ?_⟩
      | (refine ⟨fun _ => ?_, fun _ => ?_⟩ <;> first | (exfalso; omega) | skip)
      | fail
    refine ⟨_, _, st41 hgv, by omega, ?_⟩
    generalize hsw : Heap.set Hv bv _ = Hw
    have hgw : Hw.get bv = some (.cells (Hl (heatL E' m)) 27 1) := set_get hsw
    have nw := set_n hsw
    have ow := set_old hsw
    have hguw : Hw.get bs = _ := (ow bs (by omega)).trans ((kv.2 bs (by omega)).trans hgu)
    have kw : Keep Hu Hw := keep_put kv (by omega) ow nw
    have kyw := (kyt.trans ku).trans kw
    have kall := ky.trans kyw
    have hy1 := hr1.keep kall
    have hy2 := hr2.keep kall
    have hy3 := hr3.keep kall
    have hh : ∀ m : Nat, (heatL (emL cs B0 B1) m).1 ≤ (heatL E' m).1 ∧ (heatL (emL cs B0 B1) m).2 ≤ (heatL E' m).2 := fun m => by
      rw [← hE']
      exact heat_more hB0.len hB1.len ⟨hds.h1, by have := hds.h1; have := hds.h2; omega⟩
    have g1 := hh m
    have hem := emL_ok hf hB0 hB1
    have hel : (emL cs B0 B1).length ≤ 12 := by rw [emL_len]; exact hf.n
    have g2 := le_warm (E := emL cs B0 B1) (E' := E') hk hpo hel hem rfl (fun i _ => ⟨rfl, rfl, Int.le_refl _⟩) hh m
    have g3 := le_warm (E := emL cs B0 B1) (E' := emL cs B0 B1) hk hpo hel hem hql (fun i hi => ⟨(hqs i hi).1.symm, (hqs i hi).2.1.symm, (hqs i hi).2.2.1⟩) (fun _ => ⟨Int.le_refl _, Int.le_refl _⟩) m
    have a1 := sp_a hy1 (show m < (warmL k (emL cs B0 B1) ps (mN + 1)).length by omega)
    have a2 := sp_a hy2 (show m < (warmL k E' ps (mN + 1)).length by omega)
    have a3 := sp_a hy3 (show m < (warmL k (emL cs B0 B1) qs (mN + 1)).length by omega)
    have d1 := sp_b hy1 (show m < (warmL k (emL cs B0 B1) ps (mN + 1)).length by omega)
    have d2 := sp_b hy2 (show m < (warmL k E' ps (mN + 1)).length by omega)
    have d3 := sp_b hy3 (show m < (warmL k (emL cs B0 B1) qs (mN + 1)).length by omega)
    rw [warmL_at (by omega)] at a1 a2 a3 d1 d2 d3
    repeat' first
      | refine CO.cons rfl ?_
      | refine CO.nil ?_
      | refine CV.seq ?_
      | refine CV.region callees ?_
      | refine CV.cond ?_
      | refine CV.block ?_
      | refine CV.skip ?_
      | refine CV.exit ?_
      | refine CV.ret ?_
      | refine CV.scope ?_
      | refine CV.draw callees (by decide +kernel) ?_
      | refine CH.cons rfl ?_
      | refine CH.nil ?_
      | refine CO.consG rfl ?_
      | refine CH.consG rfl ?_
      | refine CG.cons rfl ?_
      | refine CR.cons ?_
      | refine CR.nil ?_
      | refine CG.nil ?_
      | refine CG.consG rfl ?_
      | refine ⟨(rfl : plain _ = true), ?_⟩
      | refine ⟨(rfl : nilOk _ = some _), ?_⟩
      | refine ⟨_, ints_len (by assumption), ?_⟩
      | refine ⟨_, ints_addr (by assumption) (by omega) (by omega), ?_⟩
      | refine ⟨_, ints_load (by assumption) (by omega) (by omega), ?_⟩
      | refine ⟨(⟨by omega, by omega⟩ : inI64 _), ?_⟩
      | refine ⟨_, fun tm ha => step1_max rfl (ev_tmp ha rfl) (ev_tmp ha rfl), ?_⟩
      | refine ⟨_, fun tm ha => step1_min rfl (ev_tmp ha rfl) (ev_tmp ha rfl), ?_⟩
      | (refine ⟨_, fS foS0 (by decide), ?_⟩)
      | (refine ⟨_, fS foS1 (by decide), ?_⟩)
      | (refine ⟨_, cell_load ag3 hguw rfl, ?_⟩)
      | (refine ⟨_, cell_load ag3 hgw rfl, ?_⟩)
      | (refine ⟨_, sp_addr hy1 (by omega) (by omega), ?_⟩)
      | (refine ⟨_, sp_addr hy2 (by omega) (by omega), ?_⟩)
      | (refine ⟨_, sp_addr hy3 (by omega) (by omega), ?_⟩)
      | (refine ⟨_, sp_f hy1 foS0 (by decide) (show m < _ by omega), ?_⟩)
      | (refine ⟨_, sp_f hy2 foS0 (by decide) (show m < _ by omega), ?_⟩)
      | (refine ⟨_, sp_f hy3 foS0 (by decide) (show m < _ by omega), ?_⟩)
      | (refine ⟨_, sp_f hy1 foS1 (by decide) (show m < _ by omega), ?_⟩)
      | (refine ⟨_, sp_f hy2 foS1 (by decide) (show m < _ by omega), ?_⟩)
      | (refine ⟨_, sp_f hy3 foS1 (by decide) (show m < _ by omega), ?_⟩)
      | (refine ⟨_, a1, ?_⟩)
      | (refine ⟨_, a2, ?_⟩)
      | (refine ⟨_, a3, ?_⟩)
      | (refine ⟨_, d1, ?_⟩)
      | (refine ⟨_, d2, ?_⟩)
      | (refine ⟨_, d3, ?_⟩)
      | (refine ⟨fun _ => ?_, fun _ => ?_⟩ <;> first | (exfalso; omega) | skip)
      | fail
    refine ⟨(m + 1), (by repeat' first | exact trivial | refine ⟨rfl, ?_⟩ | refine ⟨slot_int (by (try simp only [Int.toNat_natCast]); omega), ?_⟩), (by (try dsimp only); omega), ?_⟩
    exact ⟨by omega, kall⟩
  repeat' first
    | refine CO.cons rfl ?_
    | refine CO.nil ?_
    | refine CV.seq ?_
    | refine CV.region callees ?_
    | refine CV.cond ?_
    | refine CV.block ?_
    | refine CV.skip ?_
    | refine CV.exit ?_
    | refine CV.ret ?_
    | refine CV.scope ?_
    | refine CV.draw callees (by decide +kernel) ?_
    | refine CH.cons rfl ?_
    | refine CH.nil ?_
    | refine CO.consG rfl ?_
    | refine CH.consG rfl ?_
    | refine CG.cons rfl ?_
    | refine CR.cons ?_
    | refine CR.nil ?_
    | refine CG.nil ?_
    | refine CG.consG rfl ?_
    | refine ⟨(rfl : plain _ = true), ?_⟩
    | refine ⟨(rfl : nilOk _ = some _), ?_⟩
    | refine ⟨_, ints_len (by assumption), ?_⟩
    | refine ⟨_, ints_addr (by assumption) (by omega) (by omega), ?_⟩
    | refine ⟨_, ints_load (by assumption) (by omega) (by omega), ?_⟩
    | refine ⟨(⟨by omega, by omega⟩ : inI64 _), ?_⟩
    | refine ⟨_, fun tm ha => step1_max rfl (ev_tmp ha rfl) (ev_tmp ha rfl), ?_⟩
    | refine ⟨_, fun tm ha => step1_min rfl (ev_tmp ha rfl) (ev_tmp ha rfl), ?_⟩
    | (refine ⟨fun _ => ?_, fun _ => ?_⟩ <;> first | (exfalso; omega) | skip)
    | fail
  refine (awake_spec (by omega)).mono ?_
  rintro r Hz ⟨rfl, kz⟩
  repeat' first
    | refine CO.cons rfl ?_
    | refine CO.nil ?_
    | refine CV.seq ?_
    | refine CV.region callees ?_
    | refine CV.cond ?_
    | refine CV.block ?_
    | refine CV.skip ?_
    | refine CV.exit ?_
    | refine CV.ret ?_
    | refine CV.scope ?_
    | refine CV.draw callees (by decide +kernel) ?_
    | refine CH.cons rfl ?_
    | refine CH.nil ?_
    | refine CO.consG rfl ?_
    | refine CH.consG rfl ?_
    | refine CG.cons rfl ?_
    | refine CR.cons ?_
    | refine CR.nil ?_
    | refine CG.nil ?_
    | refine CG.consG rfl ?_
    | refine ⟨(rfl : plain _ = true), ?_⟩
    | refine ⟨(rfl : nilOk _ = some _), ?_⟩
    | refine ⟨_, ints_len (by assumption), ?_⟩
    | refine ⟨_, ints_addr (by assumption) (by omega) (by omega), ?_⟩
    | refine ⟨_, ints_load (by assumption) (by omega) (by omega), ?_⟩
    | refine ⟨(⟨by omega, by omega⟩ : inI64 _), ?_⟩
    | refine ⟨_, fun tm ha => step1_max rfl (ev_tmp ha rfl) (ev_tmp ha rfl), ?_⟩
    | refine ⟨_, fun tm ha => step1_min rfl (ev_tmp ha rfl) (ev_tmp ha rfl), ?_⟩
    | (refine ⟨fun _ => ?_, fun _ => ?_⟩ <;> first | (exfalso; omega) | skip)
    | fail
  exact ⟨rfl, rfl⟩
end Go.Proofs.Ytglkphjjinmgmaa
