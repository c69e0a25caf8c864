/- ChartLaws: its function answers true. -/
import Derived.Test.YthjieekbbhhjgaaDoorB6
namespace Go.Proofs.YthjieekbbhhjgaaDoor
open Go.AI
/-- The greatest list that is finer than both. -/
def IsMeet (a b s : List Int) : Prop := s.length = a.length ∧ Fine s a ∧ Fine s b ∧ ∀ t, t.length = a.length → Fine t a → Fine t b → Fine t s
theorem IsMeet.num {a b s : List Int} (h : IsMeet a b s) : IsMeet a b (num s []) :=
  ⟨by rw [num_length]; exact h.1, num_fine.trans (num_length _ _) h.2.1, num_fine.trans (num_length _ _) h.2.2.1, fun t h1 h2 h3 => (h.2.2.2 t h1 h2 h3).trans (by rw [h1, h.1]) fine_num⟩
theorem IsJoin.num {a b s : List Int} (hl : a.length = b.length) (h : IsJoin a b s) : IsJoin a b (num s []) :=
  ⟨by rw [num_length]; exact h.1, h.2.1.trans h.1.symm fine_num, h.2.2.1.trans (by rw [h.1, hl]) fine_num, fun t h1 h2 => num_fine.trans (num_length _ _) (h.2.2.2 t h1 h2)⟩
theorem meetL_is {a b : List Int} (ha : check a = 0) (hb : check b = 0) (hl : a.length = b.length) : IsMeet a b (meetL a b) := by
  have hlen := meetL_length hl
  have key : ∀ i j : Nat, i < a.length → j < a.length → ((meetL a b)[i]! = (meetL a b)[j]! ↔ a[i]! = a[j]! ∧ b[i]! = b[j]!) := by
    intro i j hi hj
    rw [meetL_at hl hi, meetL_at hl hj]
    have h1 := check_bound hb (i := i) (by omega)
    have h2 := check_bound hb (i := j) (by omega)
    constructor
    · intro h; constructor <;> omega
    · rintro ⟨h3, h4⟩; rw [h3, h4]
  refine ⟨hlen, fun i j hij hi he => ((key i j (by omega) (by omega)).1 he).1, fun i j hij hi he => ((key i j (by omega) (by omega)).1 he).2, fun t h1 h2 h3 i j hij hi he => (key i j (by omega) (by omega)).2 ⟨h2 i j hij hi he, h3 i j hij hi he⟩⟩

theorem meet_good {B : Nat} {v u : Value} {H : Heap} {xs ys : List Int} (hB : B ≤ H.n) (hv : Ints H v xs) (hu : Ints H u ys) (hx : check xs = 0) (hy : check ys = 0) (hl : xs.length = ys.length) :
    CallB Tryd.prog B 43 [v, u] H (fun r H' => (∃ w l, r = .tuple #[w, .int .i64 0] ∧ check l = 0 ∧ l.length = xs.length ∧ IsMeet xs ys l ∧ Ints H' w l) ∧ Keep H H') := by
  refine (meet_spec hB hv hu).mono ?_
  rintro r H' ⟨h, k⟩
  rw [TwoR, if_pos (chk2_of hx hy hl)] at h
  obtain ⟨w, l, rfl, rfl, ho⟩ := h
  have hlen := meetL_length hl
  have hb := check_len hx
  exact ⟨⟨w, _, rfl, check_of (by omega) (by omega), by rw [num_length, hlen], (meetL_is hx hy hl).num, ho.row⟩, k⟩
theorem join_good {B : Nat} {v u : Value} {H : Heap} {xs ys : List Int} (hB : B ≤ H.n) (hv : Ints H v xs) (hu : Ints H u ys) (hx : check xs = 0) (hy : check ys = 0) (hl : xs.length = ys.length) :
    CallB Tryd.prog B 45 [v, u] H (fun r H' => (∃ w l, r = .tuple #[w, .int .i64 0] ∧ check l = 0 ∧ l.length = xs.length ∧ IsJoin xs ys l ∧ Ints H' w l) ∧ Keep H H') := by
  refine (join_spec hB hv hu).mono ?_
  rintro r H' ⟨h, k⟩
  rw [TwoR, if_pos (chk2_of hx hy hl)] at h
  obtain ⟨w, l, rfl, ⟨s, hs, rfl⟩, ho⟩ := h
  have hlen := hs.1
  have hb := check_len hx
  exact ⟨⟨w, _, rfl, check_of (by omega) (by omega), by rw [num_length, hlen], hs.num hl, ho.row⟩, k⟩
theorem finer_yes {B : Nat} {v u : Value} {H : Heap} {xs ys : List Int} (hB : B ≤ H.n) (hv : Ints H v xs) (hu : Ints H u ys) (h0 : chk2 xs ys = 0) (hf : Fine xs ys) :
    CallB Tryd.prog B 77 [v, u] H (fun r H' => r = .bool true ∧ H' = H) := by
  refine (lawFiner_spec hB hv hu h0).mono ?_
  rintro r H' ⟨⟨b, rfl, hb⟩, rfl⟩
  rw [hb.2 hf]; exact ⟨rfl, rfl⟩
theorem eq_yes {B : Nat} {v u : Value} {H : Heap} {xs : List Int} (hB : B ≤ H.n) (hv : Ints H v xs) (hu : Ints H u xs) (hn : xs.length < 1000000) :
    CallB Tryd.prog B 30 [v, u] H (fun r H' => r = .bool true ∧ H' = H) := by
  refine (eq_spec hB hv hu hn).mono ?_
  rintro r H' ⟨rfl, rfl⟩
  exact ⟨by simp, rfl⟩

set_option maxHeartbeats 4000000 in
set_option maxRecDepth 100000 in
theorem chartLaws_spec {v : Value} {H : Heap} {xs : List Int} (hBase : Base H) (hv : Ints H v xs) (hx : xs.length ≤ 9223372036854775807) (_ : ∀ x ∈ xs, inI64 x) :
    CallB Tryd.prog H.n 13 [v] H (fun r _ => r = .bool true) := by
  have hn : H.n ≤ H.n := Nat.le_refl _
  refine CV.enter callees false rfl Tryd.func13 rfl ok13 (Nat.le_of_ble_eq_true rfl) hn ?_
  repeat' first
    | refine CO.cons rfl ?_
    | refine CO.nil ?_
    | refine CV.seq ?_
    | refine CV.region callees ?_
    | refine CV.cond ?_
    | refine CV.block ?_
    | refine CV.skip ?_
    | refine CV.exit ?_
    | refine CV.ret ?_
    | refine CV.scope ?_
    | refine CV.draw callees ?_
    | refine CH.cons rfl ?_
    | refine CH.nil ?_
    | refine CO.consG rfl ?_
    | refine CH.consG rfl ?_
    | refine ⟨(rfl : plain _ = true), ?_⟩
    | refine ⟨(rfl : nilOk _ = some _), ?_⟩
    | refine ⟨_, ints_len (by assumption), ?_⟩
    | refine ⟨_, ints_addr (by assumption) (by omega) (by omega), ?_⟩
    | refine ⟨_, ints_load (by assumption) (by omega) (by omega), ?_⟩
    | refine ⟨(⟨by omega, by omega⟩ : inI64 _), ?_⟩
    | refine ⟨_, fun tm ha => step1_max rfl (ev_tmp ha rfl) (ev_tmp ha rfl), ?_⟩
    | refine ⟨_, fun tm ha => step1_min rfl (ev_tmp ha rfl) (ev_tmp ha rfl), ?_⟩
    | (refine ⟨fun _ => ?_, fun _ => ?_⟩ <;> first | (exfalso; omega) | skip)
    | fail
  refine (boxOf_spec hn hv hx).mono ?_
  rintro r H1 ⟨⟨b, rfl, hb, hbox⟩, k1⟩
  repeat' first
    | refine CO.cons rfl ?_
    | refine CO.nil ?_
    | refine CV.seq ?_
    | refine CV.region callees ?_
    | refine CV.cond ?_
    | refine CV.block ?_
    | refine CV.skip ?_
    | refine CV.exit ?_
    | refine CV.ret ?_
    | refine CV.scope ?_
    | refine CV.draw callees ?_
    | refine CH.cons rfl ?_
    | refine CH.nil ?_
    | refine CO.consG rfl ?_
    | refine CH.consG rfl ?_
    | refine ⟨(rfl : plain _ = true), ?_⟩
    | refine ⟨(rfl : nilOk _ = some _), ?_⟩
    | refine ⟨_, ints_len (by assumption), ?_⟩
    | refine ⟨_, ints_addr (by assumption) (by omega) (by omega), ?_⟩
    | refine ⟨_, ints_load (by assumption) (by omega) (by omega), ?_⟩
    | refine ⟨(⟨by omega, by omega⟩ : inI64 _), ?_⟩
    | refine ⟨_, fun tm ha => step1_max rfl (ev_tmp ha rfl) (ev_tmp ha rfl), ?_⟩
    | refine ⟨_, fun tm ha => step1_min rfl (ev_tmp ha rfl) (ev_tmp ha rfl), ?_⟩
    | (refine ⟨fun _ => ?_, fun _ => ?_⟩ <;> first | (exfalso; omega) | skip)
    | fail
  refine (three_spec hb k1.1 hbox).mono ?_
  rintro r H2 ⟨⟨p, q, r', n, ps, qs, rs, rfl, h3⟩, hb2, k2⟩
  have kk : Keep H H2 := k2.keep k1 hb
  have hB2 := kk.1
  obtain ⟨hp, hq, hr, cp, cq, cr, lp, lq, lr, n1, n8⟩ := h3
  repeat' first
    | refine CO.cons rfl ?_
    | refine CO.nil ?_
    | refine CV.seq ?_
    | refine CV.region callees ?_
    | refine CV.cond ?_
    | refine CV.block ?_
    | refine CV.skip ?_
    | refine CV.exit ?_
    | refine CV.ret ?_
    | refine CV.scope ?_
    | refine CV.draw callees ?_
    | refine CH.cons rfl ?_
    | refine CH.nil ?_
    | refine CO.consG rfl ?_
    | refine CH.consG rfl ?_
    | refine ⟨(rfl : plain _ = true), ?_⟩
    | refine ⟨(rfl : nilOk _ = some _), ?_⟩
    | refine ⟨_, ints_len (by assumption), ?_⟩
    | refine ⟨_, ints_addr (by assumption) (by omega) (by omega), ?_⟩
    | refine ⟨_, ints_load (by assumption) (by omega) (by omega), ?_⟩
    | refine ⟨(⟨by omega, by omega⟩ : inI64 _), ?_⟩
    | refine ⟨_, fun tm ha => step1_max rfl (ev_tmp ha rfl) (ev_tmp ha rfl), ?_⟩
    | refine ⟨_, fun tm ha => step1_min rfl (ev_tmp ha rfl) (ev_tmp ha rfl), ?_⟩
    | (refine ⟨fun _ => ?_, fun _ => ?_⟩ <;> first | (exfalso; omega) | skip)
    | fail
  refine (meet_good hB2 hp hq cp cq (by omega)).mono ?_
  rintro r H3 ⟨⟨m, ms, rfl, cm, lm, im, hm⟩, k3⟩
  have hB3 := Nat.le_trans hB2 k3.1
  replace hp := Row.keep hp k3
  replace hq := Row.keep hq k3
  replace hr := Row.keep hr k3
  repeat' first
    | refine CO.cons rfl ?_
    | refine CO.nil ?_
    | refine CV.seq ?_
    | refine CV.region callees ?_
    | refine CV.cond ?_
    | refine CV.block ?_
    | refine CV.skip ?_
    | refine CV.exit ?_
    | refine CV.ret ?_
    | refine CV.scope ?_
    | refine CV.draw callees ?_
    | refine CH.cons rfl ?_
    | refine CH.nil ?_
    | refine CO.consG rfl ?_
    | refine CH.consG rfl ?_
    | refine ⟨(rfl : plain _ = true), ?_⟩
    | refine ⟨(rfl : nilOk _ = some _), ?_⟩
    | refine ⟨_, ints_len (by assumption), ?_⟩
    | refine ⟨_, ints_addr (by assumption) (by omega) (by omega), ?_⟩
    | refine ⟨_, ints_load (by assumption) (by omega) (by omega), ?_⟩
    | refine ⟨(⟨by omega, by omega⟩ : inI64 _), ?_⟩
    | refine ⟨_, fun tm ha => step1_max rfl (ev_tmp ha rfl) (ev_tmp ha rfl), ?_⟩
    | refine ⟨_, fun tm ha => step1_min rfl (ev_tmp ha rfl) (ev_tmp ha rfl), ?_⟩
    | (refine ⟨fun _ => ?_, fun _ => ?_⟩ <;> first | (exfalso; omega) | skip)
    | fail
  refine (join_good hB3 hp hq cp cq (by omega)).mono ?_
  rintro r H4 ⟨⟨j, js, rfl, cj, lj, ij, hj⟩, k4⟩
  have hB4 := Nat.le_trans hB3 k4.1
  replace hp := Row.keep hp k4
  replace hq := Row.keep hq k4
  replace hr := Row.keep hr k4
  replace hm := Row.keep hm k4
  have c1 := chk2_of cm cp (by omega)
  have c2 := chk2_of cm cq (by omega)
  have c3 := chk2_of cp cj (by omega)
  have c4 := chk2_of cq cj (by omega)
  have f1 := im.2.1
  have f2 := im.2.2.1
  have f3 := ij.2.1
  have f4 := ij.2.2.1
  change Ints H4 p ps at hp
  change Ints H4 q qs at hq
  change Ints H4 r' rs at hr
  change Ints H4 m ms at hm
  repeat' first
    | refine CO.cons rfl ?_
    | refine CO.nil ?_
    | refine CV.seq ?_
    | refine CV.region callees ?_
    | refine CV.cond ?_
    | refine CV.block ?_
    | refine CV.skip ?_
    | refine CV.exit ?_
    | refine CV.ret ?_
    | refine CV.scope ?_
    | refine CV.draw callees ?_
    | refine CH.cons rfl ?_
    | refine CH.nil ?_
    | refine CO.consG rfl ?_
    | refine CH.consG rfl ?_
    | refine ⟨(rfl : plain _ = true), ?_⟩
    | refine ⟨(rfl : nilOk _ = some _), ?_⟩
    | refine ⟨_, ints_len (by assumption), ?_⟩
    | refine ⟨_, ints_addr (by assumption) (by omega) (by omega), ?_⟩
    | refine ⟨_, ints_load (by assumption) (by omega) (by omega), ?_⟩
    | refine ⟨(⟨by omega, by omega⟩ : inI64 _), ?_⟩
    | refine ⟨_, fun tm ha => step1_max rfl (ev_tmp ha rfl) (ev_tmp ha rfl), ?_⟩
    | refine ⟨_, fun tm ha => step1_min rfl (ev_tmp ha rfl) (ev_tmp ha rfl), ?_⟩
    | (refine (finer_yes (by assumption) (by assumption) (by assumption) (by assumption) (by assumption)).mono ?_; rintro r H' ⟨rfl, rfl⟩)
    | (refine ⟨fun _ => ?_, fun _ => ?_⟩ <;> first | (exfalso; omega) | skip)
    | fail
  refine (meet_good hB4 hm hr cm cr (by omega)).mono ?_
  rintro r H5 ⟨⟨lo, los, rfl, clo, llo, ilo, hlo⟩, k5⟩
  have hB5 := Nat.le_trans hB4 k5.1
  replace hp := Row.keep hp k5
  replace hq := Row.keep hq k5
  replace hr := Row.keep hr k5
  replace hm := Row.keep hm k5
  replace hj := Row.keep hj k5
  repeat' first
    | refine CO.cons rfl ?_
    | refine CO.nil ?_
    | refine CV.seq ?_
    | refine CV.region callees ?_
    | refine CV.cond ?_
    | refine CV.block ?_
    | refine CV.skip ?_
    | refine CV.exit ?_
    | refine CV.ret ?_
    | refine CV.scope ?_
    | refine CV.draw callees ?_
    | refine CH.cons rfl ?_
    | refine CH.nil ?_
    | refine CO.consG rfl ?_
    | refine CH.consG rfl ?_
    | refine ⟨(rfl : plain _ = true), ?_⟩
    | refine ⟨(rfl : nilOk _ = some _), ?_⟩
    | refine ⟨_, ints_len (by assumption), ?_⟩
    | refine ⟨_, ints_addr (by assumption) (by omega) (by omega), ?_⟩
    | refine ⟨_, ints_load (by assumption) (by omega) (by omega), ?_⟩
    | refine ⟨(⟨by omega, by omega⟩ : inI64 _), ?_⟩
    | refine ⟨_, fun tm ha => step1_max rfl (ev_tmp ha rfl) (ev_tmp ha rfl), ?_⟩
    | refine ⟨_, fun tm ha => step1_min rfl (ev_tmp ha rfl) (ev_tmp ha rfl), ?_⟩
    | (refine ⟨fun _ => ?_, fun _ => ?_⟩ <;> first | (exfalso; omega) | skip)
    | fail
  refine (join_good hB5 hj hr cj cr (by omega)).mono ?_
  rintro r H6 ⟨⟨hi, his, rfl, chi, lhi, ihi, hhi⟩, k6⟩
  have hB6 := Nat.le_trans hB5 k6.1
  replace hp := Row.keep hp k6
  replace hq := Row.keep hq k6
  replace hr := Row.keep hr k6
  replace hm := Row.keep hm k6
  replace hj := Row.keep hj k6
  replace hlo := Row.keep hlo k6
  repeat' first
    | refine CO.cons rfl ?_
    | refine CO.nil ?_
    | refine CV.seq ?_
    | refine CV.region callees ?_
    | refine CV.cond ?_
    | refine CV.block ?_
    | refine CV.skip ?_
    | refine CV.exit ?_
    | refine CV.ret ?_
    | refine CV.scope ?_
    | refine CV.draw callees ?_
    | refine CH.cons rfl ?_
    | refine CH.nil ?_
    | refine CO.consG rfl ?_
    | refine CH.consG rfl ?_
    | refine ⟨(rfl : plain _ = true), ?_⟩
    | refine ⟨(rfl : nilOk _ = some _), ?_⟩
    | refine ⟨_, ints_len (by assumption), ?_⟩
    | refine ⟨_, ints_addr (by assumption) (by omega) (by omega), ?_⟩
    | refine ⟨_, ints_load (by assumption) (by omega) (by omega), ?_⟩
    | refine ⟨(⟨by omega, by omega⟩ : inI64 _), ?_⟩
    | refine ⟨_, fun tm ha => step1_max rfl (ev_tmp ha rfl) (ev_tmp ha rfl), ?_⟩
    | refine ⟨_, fun tm ha => step1_min rfl (ev_tmp ha rfl) (ev_tmp ha rfl), ?_⟩
    | (refine ⟨fun _ => ?_, fun _ => ?_⟩ <;> first | (exfalso; omega) | skip)
    | fail
  refine (meet_good hB6 hp hj cp cj (by omega)).mono ?_
  rintro r H7 ⟨⟨a, ass, rfl, ca, la, ia, ha⟩, k7⟩
  have hB7 := Nat.le_trans hB6 k7.1
  replace hp := Row.keep hp k7
  replace hq := Row.keep hq k7
  replace hr := Row.keep hr k7
  replace hm := Row.keep hm k7
  replace hj := Row.keep hj k7
  replace hlo := Row.keep hlo k7
  replace hhi := Row.keep hhi k7
  repeat' first
    | refine CO.cons rfl ?_
    | refine CO.nil ?_
    | refine CV.seq ?_
    | refine CV.region callees ?_
    | refine CV.cond ?_
    | refine CV.block ?_
    | refine CV.skip ?_
    | refine CV.exit ?_
    | refine CV.ret ?_
    | refine CV.scope ?_
    | refine CV.draw callees ?_
    | refine CH.cons rfl ?_
    | refine CH.nil ?_
    | refine CO.consG rfl ?_
    | refine CH.consG rfl ?_
    | refine ⟨(rfl : plain _ = true), ?_⟩
    | refine ⟨(rfl : nilOk _ = some _), ?_⟩
    | refine ⟨_, ints_len (by assumption), ?_⟩
    | refine ⟨_, ints_addr (by assumption) (by omega) (by omega), ?_⟩
    | refine ⟨_, ints_load (by assumption) (by omega) (by omega), ?_⟩
    | refine ⟨(⟨by omega, by omega⟩ : inI64 _), ?_⟩
    | refine ⟨_, fun tm ha => step1_max rfl (ev_tmp ha rfl) (ev_tmp ha rfl), ?_⟩
    | refine ⟨_, fun tm ha => step1_min rfl (ev_tmp ha rfl) (ev_tmp ha rfl), ?_⟩
    | (refine ⟨fun _ => ?_, fun _ => ?_⟩ <;> first | (exfalso; omega) | skip)
    | fail
  refine (join_good hB7 hp hm cp cm (by omega)).mono ?_
  rintro r H8 ⟨⟨b', bs, rfl, cb, lb, ib, hb'⟩, k8⟩
  have hB8 := Nat.le_trans hB7 k8.1
  replace hp : Ints H8 p ps := Row.keep hp k8
  replace hq : Ints H8 q qs := Row.keep hq k8
  replace hr : Ints H8 r' rs := Row.keep hr k8
  replace hm : Ints H8 m ms := Row.keep hm k8
  replace hj : Ints H8 j js := Row.keep hj k8
  replace hlo : Ints H8 lo los := Row.keep hlo k8
  replace hhi : Ints H8 hi his := Row.keep hhi k8
  replace ha : Ints H8 a ass := Row.keep ha k8
  have e1 : ass = ps := eq_of_fine ca cp (by omega) ia.2.1 (ia.2.2.2 ps rfl (Fine.refl _) f3)
  have e2 : bs = ps := eq_of_fine cb cp (by omega) (ib.2.2.2 ps (Fine.refl _) f1) ib.2.1
  subst e1
  subst e2
  have d1 := chk2_of clo cp (by omega)
  have d2 := chk2_of clo cq (by omega)
  have d3 := chk2_of cp chi (by omega)
  have d4 := chk2_of cq chi (by omega)
  have d5 := chk2_of cr cp (by omega)
  have d6 := chk2_of cr cq (by omega)
  have d7 := chk2_of cp cr (by omega)
  have d8 := chk2_of cq cr (by omega)
  have d9 := chk2_of cr cm (by omega)
  have d10 := chk2_of cj cr (by omega)
  have d11 := chk2_of clo cm (by omega)
  have d12 := chk2_of cj chi (by omega)
  have g1 : Fine los ms := ilo.2.1
  have g2 : Fine los bs := g1.trans (by omega) f1
  have g3 : Fine los qs := g1.trans (by omega) f2
  have g4 : Fine js his := ihi.2.1
  have g5 : Fine bs his := f3.trans (by omega) g4
  have g6 : Fine qs his := f4.trans (by omega) g4
  have kall : Keep H H8 := kk.trans (k3.trans (k4.trans (k5.trans (k6.trans (k7.trans k8)))))
  repeat' first
    | refine CO.cons rfl ?_
    | refine CO.nil ?_
    | refine CV.seq ?_
    | refine CV.region callees ?_
    | refine CV.cond ?_
    | refine CV.block ?_
    | refine CV.skip ?_
    | refine CV.exit ?_
    | refine CV.ret ?_
    | refine CV.scope ?_
    | refine CV.draw callees ?_
    | refine CH.cons rfl ?_
    | refine CH.nil ?_
    | refine CO.consG rfl ?_
    | refine CH.consG rfl ?_
    | refine ⟨(rfl : plain _ = true), ?_⟩
    | refine ⟨(rfl : nilOk _ = some _), ?_⟩
    | refine ⟨_, ints_len (by assumption), ?_⟩
    | refine ⟨_, ints_addr (by assumption) (by omega) (by omega), ?_⟩
    | refine ⟨_, ints_load (by assumption) (by omega) (by omega), ?_⟩
    | refine ⟨(⟨by omega, by omega⟩ : inI64 _), ?_⟩
    | refine ⟨_, fun tm ha => step1_max rfl (ev_tmp ha rfl) (ev_tmp ha rfl), ?_⟩
    | refine ⟨_, fun tm ha => step1_min rfl (ev_tmp ha rfl) (ev_tmp ha rfl), ?_⟩
    | (refine (finer_yes (by assumption) (by assumption) (by assumption) (by assumption) (by assumption)).mono ?_; rintro r H' ⟨rfl, rfl⟩)
    | (refine ⟨fun _ => ?_, fun _ => ?_⟩ <;> first | (exfalso; omega) | skip)
    | fail
  refine (lawFiner_spec hB8 hr hp d5).mono ?_
  rintro r H9 ⟨⟨x1, rfl, h1⟩, rfl⟩
  cases x1
  · repeat' first
      | refine CO.cons rfl ?_
      | refine CO.nil ?_
      | refine CV.seq ?_
      | refine CV.region callees ?_
      | refine CV.cond ?_
      | refine CV.block ?_
      | refine CV.skip ?_
      | refine CV.exit ?_
      | refine CV.ret ?_
      | refine CV.scope ?_
      | refine CV.draw callees ?_
      | refine CH.cons rfl ?_
      | refine CH.nil ?_
      | refine CO.consG rfl ?_
      | refine CH.consG rfl ?_
      | refine ⟨(rfl : plain _ = true), ?_⟩
      | refine ⟨(rfl : nilOk _ = some _), ?_⟩
      | refine ⟨_, ints_len (by assumption), ?_⟩
      | refine ⟨_, ints_addr (by assumption) (by omega) (by omega), ?_⟩
      | refine ⟨_, ints_load (by assumption) (by omega) (by omega), ?_⟩
      | refine ⟨(⟨by omega, by omega⟩ : inI64 _), ?_⟩
      | refine ⟨_, fun tm ha => step1_max rfl (ev_tmp ha rfl) (ev_tmp ha rfl), ?_⟩
      | refine ⟨_, fun tm ha => step1_min rfl (ev_tmp ha rfl) (ev_tmp ha rfl), ?_⟩
      | (refine ⟨fun _ => ?_, fun _ => ?_⟩ <;> first | (exfalso; omega) | skip)
      | fail
    refine (lawFiner_spec hB8 hp hr d7).mono ?_
    rintro r H9 ⟨⟨x3, rfl, h3⟩, rfl⟩
    cases x3
    · repeat' first
        | refine CO.cons rfl ?_
        | refine CO.nil ?_
        | refine CV.seq ?_
        | refine CV.region callees ?_
        | refine CV.cond ?_
        | refine CV.block ?_
        | refine CV.skip ?_
        | refine CV.exit ?_
        | refine CV.ret ?_
        | refine CV.scope ?_
        | refine CV.draw callees ?_
        | refine CH.cons rfl ?_
        | refine CH.nil ?_
        | refine CO.consG rfl ?_
        | refine CH.consG rfl ?_
        | refine ⟨(rfl : plain _ = true), ?_⟩
        | refine ⟨(rfl : nilOk _ = some _), ?_⟩
        | refine ⟨_, ints_len (by assumption), ?_⟩
        | refine ⟨_, ints_addr (by assumption) (by omega) (by omega), ?_⟩
        | refine ⟨_, ints_load (by assumption) (by omega) (by omega), ?_⟩
        | refine ⟨(⟨by omega, by omega⟩ : inI64 _), ?_⟩
        | refine ⟨_, fun tm ha => step1_max rfl (ev_tmp ha rfl) (ev_tmp ha rfl), ?_⟩
        | refine ⟨_, fun tm ha => step1_min rfl (ev_tmp ha rfl) (ev_tmp ha rfl), ?_⟩
        | (refine (finer_yes (by assumption) (by assumption) (by assumption) (by assumption) (by assumption)).mono ?_; rintro r H' ⟨rfl, rfl⟩)
        | (refine (eq_yes (by assumption) (by assumption) (by assumption) (by omega)).mono ?_; rintro r H' ⟨rfl, rfl⟩)
        | refine CallB.known rfl (base_keep hBase kall) hB8 ?_
        | (refine ⟨fun _ => ?_, fun _ => ?_⟩ <;> first | (exfalso; omega) | skip)
        | fail
      exact ⟨rfl, rfl⟩
    · repeat' first
        | refine CO.cons rfl ?_
        | refine CO.nil ?_
        | refine CV.seq ?_
        | refine CV.region callees ?_
        | refine CV.cond ?_
        | refine CV.block ?_
        | refine CV.skip ?_
        | refine CV.exit ?_
        | refine CV.ret ?_
        | refine CV.scope ?_
        | refine CV.draw callees ?_
        | refine CH.cons rfl ?_
        | refine CH.nil ?_
        | refine CO.consG rfl ?_
        | refine CH.consG rfl ?_
        | refine ⟨(rfl : plain _ = true), ?_⟩
        | refine ⟨(rfl : nilOk _ = some _), ?_⟩
        | refine ⟨_, ints_len (by assumption), ?_⟩
        | refine ⟨_, ints_addr (by assumption) (by omega) (by omega), ?_⟩
        | refine ⟨_, ints_load (by assumption) (by omega) (by omega), ?_⟩
        | refine ⟨(⟨by omega, by omega⟩ : inI64 _), ?_⟩
        | refine ⟨_, fun tm ha => step1_max rfl (ev_tmp ha rfl) (ev_tmp ha rfl), ?_⟩
        | refine ⟨_, fun tm ha => step1_min rfl (ev_tmp ha rfl) (ev_tmp ha rfl), ?_⟩
        | (refine ⟨fun _ => ?_, fun _ => ?_⟩ <;> first | (exfalso; omega) | skip)
        | fail
      refine (lawFiner_spec hB8 hq hr d8).mono ?_
      rintro r H9 ⟨⟨x4, rfl, h4⟩, rfl⟩
      cases x4
      · repeat' first
          | refine CO.cons rfl ?_
          | refine CO.nil ?_
          | refine CV.seq ?_
          | refine CV.region callees ?_
          | refine CV.cond ?_
          | refine CV.block ?_
          | refine CV.skip ?_
          | refine CV.exit ?_
          | refine CV.ret ?_
          | refine CV.scope ?_
          | refine CV.draw callees ?_
          | refine CH.cons rfl ?_
          | refine CH.nil ?_
          | refine CO.consG rfl ?_
          | refine CH.consG rfl ?_
          | refine ⟨(rfl : plain _ = true), ?_⟩
          | refine ⟨(rfl : nilOk _ = some _), ?_⟩
          | refine ⟨_, ints_len (by assumption), ?_⟩
          | refine ⟨_, ints_addr (by assumption) (by omega) (by omega), ?_⟩
          | refine ⟨_, ints_load (by assumption) (by omega) (by omega), ?_⟩
          | refine ⟨(⟨by omega, by omega⟩ : inI64 _), ?_⟩
          | refine ⟨_, fun tm ha => step1_max rfl (ev_tmp ha rfl) (ev_tmp ha rfl), ?_⟩
          | refine ⟨_, fun tm ha => step1_min rfl (ev_tmp ha rfl) (ev_tmp ha rfl), ?_⟩
          | (refine (finer_yes (by assumption) (by assumption) (by assumption) (by assumption) (by assumption)).mono ?_; rintro r H' ⟨rfl, rfl⟩)
          | (refine (eq_yes (by assumption) (by assumption) (by assumption) (by omega)).mono ?_; rintro r H' ⟨rfl, rfl⟩)
          | refine CallB.known rfl (base_keep hBase kall) hB8 ?_
          | (refine ⟨fun _ => ?_, fun _ => ?_⟩ <;> first | (exfalso; omega) | skip)
          | fail
        exact ⟨rfl, rfl⟩
      · have e2 : Fine js rs := ij.2.2.2 rs (h3.1 rfl) (h4.1 rfl)
        repeat' first
          | refine CO.cons rfl ?_
          | refine CO.nil ?_
          | refine CV.seq ?_
          | refine CV.region callees ?_
          | refine CV.cond ?_
          | refine CV.block ?_
          | refine CV.skip ?_
          | refine CV.exit ?_
          | refine CV.ret ?_
          | refine CV.scope ?_
          | refine CV.draw callees ?_
          | refine CH.cons rfl ?_
          | refine CH.nil ?_
          | refine CO.consG rfl ?_
          | refine CH.consG rfl ?_
          | refine ⟨(rfl : plain _ = true), ?_⟩
          | refine ⟨(rfl : nilOk _ = some _), ?_⟩
          | refine ⟨_, ints_len (by assumption), ?_⟩
          | refine ⟨_, ints_addr (by assumption) (by omega) (by omega), ?_⟩
          | refine ⟨_, ints_load (by assumption) (by omega) (by omega), ?_⟩
          | refine ⟨(⟨by omega, by omega⟩ : inI64 _), ?_⟩
          | refine ⟨_, fun tm ha => step1_max rfl (ev_tmp ha rfl) (ev_tmp ha rfl), ?_⟩
          | refine ⟨_, fun tm ha => step1_min rfl (ev_tmp ha rfl) (ev_tmp ha rfl), ?_⟩
          | (refine (finer_yes (by assumption) (by assumption) (by assumption) (by assumption) (by assumption)).mono ?_; rintro r H' ⟨rfl, rfl⟩)
          | (refine (eq_yes (by assumption) (by assumption) (by assumption) (by omega)).mono ?_; rintro r H' ⟨rfl, rfl⟩)
          | refine CallB.known rfl (base_keep hBase kall) hB8 ?_
          | (refine ⟨fun _ => ?_, fun _ => ?_⟩ <;> first | (exfalso; omega) | skip)
          | fail
        exact ⟨rfl, rfl⟩
  · repeat' first
      | refine CO.cons rfl ?_
      | refine CO.nil ?_
      | refine CV.seq ?_
      | refine CV.region callees ?_
      | refine CV.cond ?_
      | refine CV.block ?_
      | refine CV.skip ?_
      | refine CV.exit ?_
      | refine CV.ret ?_
      | refine CV.scope ?_
      | refine CV.draw callees ?_
      | refine CH.cons rfl ?_
      | refine CH.nil ?_
      | refine CO.consG rfl ?_
      | refine CH.consG rfl ?_
      | refine ⟨(rfl : plain _ = true), ?_⟩
      | refine ⟨(rfl : nilOk _ = some _), ?_⟩
      | refine ⟨_, ints_len (by assumption), ?_⟩
      | refine ⟨_, ints_addr (by assumption) (by omega) (by omega), ?_⟩
      | refine ⟨_, ints_load (by assumption) (by omega) (by omega), ?_⟩
      | refine ⟨(⟨by omega, by omega⟩ : inI64 _), ?_⟩
      | refine ⟨_, fun tm ha => step1_max rfl (ev_tmp ha rfl) (ev_tmp ha rfl), ?_⟩
      | refine ⟨_, fun tm ha => step1_min rfl (ev_tmp ha rfl) (ev_tmp ha rfl), ?_⟩
      | (refine ⟨fun _ => ?_, fun _ => ?_⟩ <;> first | (exfalso; omega) | skip)
      | fail
    refine (lawFiner_spec hB8 hr hq d6).mono ?_
    rintro r H9 ⟨⟨x2, rfl, h2⟩, rfl⟩
    cases x2
    · repeat' first
        | refine CO.cons rfl ?_
        | refine CO.nil ?_
        | refine CV.seq ?_
        | refine CV.region callees ?_
        | refine CV.cond ?_
        | refine CV.block ?_
        | refine CV.skip ?_
        | refine CV.exit ?_
        | refine CV.ret ?_
        | refine CV.scope ?_
        | refine CV.draw callees ?_
        | refine CH.cons rfl ?_
        | refine CH.nil ?_
        | refine CO.consG rfl ?_
        | refine CH.consG rfl ?_
        | refine ⟨(rfl : plain _ = true), ?_⟩
        | refine ⟨(rfl : nilOk _ = some _), ?_⟩
        | refine ⟨_, ints_len (by assumption), ?_⟩
        | refine ⟨_, ints_addr (by assumption) (by omega) (by omega), ?_⟩
        | refine ⟨_, ints_load (by assumption) (by omega) (by omega), ?_⟩
        | refine ⟨(⟨by omega, by omega⟩ : inI64 _), ?_⟩
        | refine ⟨_, fun tm ha => step1_max rfl (ev_tmp ha rfl) (ev_tmp ha rfl), ?_⟩
        | refine ⟨_, fun tm ha => step1_min rfl (ev_tmp ha rfl) (ev_tmp ha rfl), ?_⟩
        | (refine ⟨fun _ => ?_, fun _ => ?_⟩ <;> first | (exfalso; omega) | skip)
        | fail
      refine (lawFiner_spec hB8 hp hr d7).mono ?_
      rintro r H9 ⟨⟨x3, rfl, h3⟩, rfl⟩
      cases x3
      · repeat' first
          | refine CO.cons rfl ?_
          | refine CO.nil ?_
          | refine CV.seq ?_
          | refine CV.region callees ?_
          | refine CV.cond ?_
          | refine CV.block ?_
          | refine CV.skip ?_
          | refine CV.exit ?_
          | refine CV.ret ?_
          | refine CV.scope ?_
          | refine CV.draw callees ?_
          | refine CH.cons rfl ?_
          | refine CH.nil ?_
          | refine CO.consG rfl ?_
          | refine CH.consG rfl ?_
          | refine ⟨(rfl : plain _ = true), ?_⟩
          | refine ⟨(rfl : nilOk _ = some _), ?_⟩
          | refine ⟨_, ints_len (by assumption), ?_⟩
          | refine ⟨_, ints_addr (by assumption) (by omega) (by omega), ?_⟩
          | refine ⟨_, ints_load (by assumption) (by omega) (by omega), ?_⟩
          | refine ⟨(⟨by omega, by omega⟩ : inI64 _), ?_⟩
          | refine ⟨_, fun tm ha => step1_max rfl (ev_tmp ha rfl) (ev_tmp ha rfl), ?_⟩
          | refine ⟨_, fun tm ha => step1_min rfl (ev_tmp ha rfl) (ev_tmp ha rfl), ?_⟩
          | (refine (finer_yes (by assumption) (by assumption) (by assumption) (by assumption) (by assumption)).mono ?_; rintro r H' ⟨rfl, rfl⟩)
          | (refine (eq_yes (by assumption) (by assumption) (by assumption) (by omega)).mono ?_; rintro r H' ⟨rfl, rfl⟩)
          | refine CallB.known rfl (base_keep hBase kall) hB8 ?_
          | (refine ⟨fun _ => ?_, fun _ => ?_⟩ <;> first | (exfalso; omega) | skip)
          | fail
        exact ⟨rfl, rfl⟩
      · repeat' first
          | refine CO.cons rfl ?_
          | refine CO.nil ?_
          | refine CV.seq ?_
          | refine CV.region callees ?_
          | refine CV.cond ?_
          | refine CV.block ?_
          | refine CV.skip ?_
          | refine CV.exit ?_
          | refine CV.ret ?_
          | refine CV.scope ?_
          | refine CV.draw callees ?_
          | refine CH.cons rfl ?_
          | refine CH.nil ?_
          | refine CO.consG rfl ?_
          | refine CH.consG rfl ?_
          | refine ⟨(rfl : plain _ = true), ?_⟩
          | refine ⟨(rfl : nilOk _ = some _), ?_⟩
          | refine ⟨_, ints_len (by assumption), ?_⟩
          | refine ⟨_, ints_addr (by assumption) (by omega) (by omega), ?_⟩
          | refine ⟨_, ints_load (by assumption) (by omega) (by omega), ?_⟩
          | refine ⟨(⟨by omega, by omega⟩ : inI64 _), ?_⟩
          | refine ⟨_, fun tm ha => step1_max rfl (ev_tmp ha rfl) (ev_tmp ha rfl), ?_⟩
          | refine ⟨_, fun tm ha => step1_min rfl (ev_tmp ha rfl) (ev_tmp ha rfl), ?_⟩
          | (refine ⟨fun _ => ?_, fun _ => ?_⟩ <;> first | (exfalso; omega) | skip)
          | fail
        refine (lawFiner_spec hB8 hq hr d8).mono ?_
        rintro r H9 ⟨⟨x4, rfl, h4⟩, rfl⟩
        cases x4
        · repeat' first
            | refine CO.cons rfl ?_
            | refine CO.nil ?_
            | refine CV.seq ?_
            | refine CV.region callees ?_
            | refine CV.cond ?_
            | refine CV.block ?_
            | refine CV.skip ?_
            | refine CV.exit ?_
            | refine CV.ret ?_
            | refine CV.scope ?_
            | refine CV.draw callees ?_
            | refine CH.cons rfl ?_
            | refine CH.nil ?_
            | refine CO.consG rfl ?_
            | refine CH.consG rfl ?_
            | refine ⟨(rfl : plain _ = true), ?_⟩
            | refine ⟨(rfl : nilOk _ = some _), ?_⟩
            | refine ⟨_, ints_len (by assumption), ?_⟩
            | refine ⟨_, ints_addr (by assumption) (by omega) (by omega), ?_⟩
            | refine ⟨_, ints_load (by assumption) (by omega) (by omega), ?_⟩
            | refine ⟨(⟨by omega, by omega⟩ : inI64 _), ?_⟩
            | refine ⟨_, fun tm ha => step1_max rfl (ev_tmp ha rfl) (ev_tmp ha rfl), ?_⟩
            | refine ⟨_, fun tm ha => step1_min rfl (ev_tmp ha rfl) (ev_tmp ha rfl), ?_⟩
            | (refine (finer_yes (by assumption) (by assumption) (by assumption) (by assumption) (by assumption)).mono ?_; rintro r H' ⟨rfl, rfl⟩)
            | (refine (eq_yes (by assumption) (by assumption) (by assumption) (by omega)).mono ?_; rintro r H' ⟨rfl, rfl⟩)
            | refine CallB.known rfl (base_keep hBase kall) hB8 ?_
            | (refine ⟨fun _ => ?_, fun _ => ?_⟩ <;> first | (exfalso; omega) | skip)
            | fail
          exact ⟨rfl, rfl⟩
        · have e2 : Fine js rs := ij.2.2.2 rs (h3.1 rfl) (h4.1 rfl)
          repeat' first
            | refine CO.cons rfl ?_
            | refine CO.nil ?_
            | refine CV.seq ?_
            | refine CV.region callees ?_
            | refine CV.cond ?_
            | refine CV.block ?_
            | refine CV.skip ?_
            | refine CV.exit ?_
            | refine CV.ret ?_
            | refine CV.scope ?_
            | refine CV.draw callees ?_
            | refine CH.cons rfl ?_
            | refine CH.nil ?_
            | refine CO.consG rfl ?_
            | refine CH.consG rfl ?_
            | refine ⟨(rfl : plain _ = true), ?_⟩
            | refine ⟨(rfl : nilOk _ = some _), ?_⟩
            | refine ⟨_, ints_len (by assumption), ?_⟩
            | refine ⟨_, ints_addr (by assumption) (by omega) (by omega), ?_⟩
            | refine ⟨_, ints_load (by assumption) (by omega) (by omega), ?_⟩
            | refine ⟨(⟨by omega, by omega⟩ : inI64 _), ?_⟩
            | refine ⟨_, fun tm ha => step1_max rfl (ev_tmp ha rfl) (ev_tmp ha rfl), ?_⟩
            | refine ⟨_, fun tm ha => step1_min rfl (ev_tmp ha rfl) (ev_tmp ha rfl), ?_⟩
            | (refine (finer_yes (by assumption) (by assumption) (by assumption) (by assumption) (by assumption)).mono ?_; rintro r H' ⟨rfl, rfl⟩)
            | (refine (eq_yes (by assumption) (by assumption) (by assumption) (by omega)).mono ?_; rintro r H' ⟨rfl, rfl⟩)
            | refine CallB.known rfl (base_keep hBase kall) hB8 ?_
            | (refine ⟨fun _ => ?_, fun _ => ?_⟩ <;> first | (exfalso; omega) | skip)
            | fail
          exact ⟨rfl, rfl⟩
    · have e1 : Fine rs ms := im.2.2.2 rs (by omega) (h1.1 rfl) (h2.1 rfl)
      repeat' first
        | refine CO.cons rfl ?_
        | refine CO.nil ?_
        | refine CV.seq ?_
        | refine CV.region callees ?_
        | refine CV.cond ?_
        | refine CV.block ?_
        | refine CV.skip ?_
        | refine CV.exit ?_
        | refine CV.ret ?_
        | refine CV.scope ?_
        | refine CV.draw callees ?_
        | refine CH.cons rfl ?_
        | refine CH.nil ?_
        | refine CO.consG rfl ?_
        | refine CH.consG rfl ?_
        | refine ⟨(rfl : plain _ = true), ?_⟩
        | refine ⟨(rfl : nilOk _ = some _), ?_⟩
        | refine ⟨_, ints_len (by assumption), ?_⟩
        | refine ⟨_, ints_addr (by assumption) (by omega) (by omega), ?_⟩
        | refine ⟨_, ints_load (by assumption) (by omega) (by omega), ?_⟩
        | refine ⟨(⟨by omega, by omega⟩ : inI64 _), ?_⟩
        | refine ⟨_, fun tm ha => step1_max rfl (ev_tmp ha rfl) (ev_tmp ha rfl), ?_⟩
        | refine ⟨_, fun tm ha => step1_min rfl (ev_tmp ha rfl) (ev_tmp ha rfl), ?_⟩
        | (refine ⟨fun _ => ?_, fun _ => ?_⟩ <;> first | (exfalso; omega) | skip)
        | fail
      refine (lawFiner_spec hB8 hp hr d7).mono ?_
      rintro r H9 ⟨⟨x3, rfl, h3⟩, rfl⟩
      cases x3
      · repeat' first
          | refine CO.cons rfl ?_
          | refine CO.nil ?_
          | refine CV.seq ?_
          | refine CV.region callees ?_
          | refine CV.cond ?_
          | refine CV.block ?_
          | refine CV.skip ?_
          | refine CV.exit ?_
          | refine CV.ret ?_
          | refine CV.scope ?_
          | refine CV.draw callees ?_
          | refine CH.cons rfl ?_
          | refine CH.nil ?_
          | refine CO.consG rfl ?_
          | refine CH.consG rfl ?_
          | refine ⟨(rfl : plain _ = true), ?_⟩
          | refine ⟨(rfl : nilOk _ = some _), ?_⟩
          | refine ⟨_, ints_len (by assumption), ?_⟩
          | refine ⟨_, ints_addr (by assumption) (by omega) (by omega), ?_⟩
          | refine ⟨_, ints_load (by assumption) (by omega) (by omega), ?_⟩
          | refine ⟨(⟨by omega, by omega⟩ : inI64 _), ?_⟩
          | refine ⟨_, fun tm ha => step1_max rfl (ev_tmp ha rfl) (ev_tmp ha rfl), ?_⟩
          | refine ⟨_, fun tm ha => step1_min rfl (ev_tmp ha rfl) (ev_tmp ha rfl), ?_⟩
          | (refine (finer_yes (by assumption) (by assumption) (by assumption) (by assumption) (by assumption)).mono ?_; rintro r H' ⟨rfl, rfl⟩)
          | (refine (eq_yes (by assumption) (by assumption) (by assumption) (by omega)).mono ?_; rintro r H' ⟨rfl, rfl⟩)
          | refine CallB.known rfl (base_keep hBase kall) hB8 ?_
          | (refine ⟨fun _ => ?_, fun _ => ?_⟩ <;> first | (exfalso; omega) | skip)
          | fail
        exact ⟨rfl, rfl⟩
      · repeat' first
          | refine CO.cons rfl ?_
          | refine CO.nil ?_
          | refine CV.seq ?_
          | refine CV.region callees ?_
          | refine CV.cond ?_
          | refine CV.block ?_
          | refine CV.skip ?_
          | refine CV.exit ?_
          | refine CV.ret ?_
          | refine CV.scope ?_
          | refine CV.draw callees ?_
          | refine CH.cons rfl ?_
          | refine CH.nil ?_
          | refine CO.consG rfl ?_
          | refine CH.consG rfl ?_
          | refine ⟨(rfl : plain _ = true), ?_⟩
          | refine ⟨(rfl : nilOk _ = some _), ?_⟩
          | refine ⟨_, ints_len (by assumption), ?_⟩
          | refine ⟨_, ints_addr (by assumption) (by omega) (by omega), ?_⟩
          | refine ⟨_, ints_load (by assumption) (by omega) (by omega), ?_⟩
          | refine ⟨(⟨by omega, by omega⟩ : inI64 _), ?_⟩
          | refine ⟨_, fun tm ha => step1_max rfl (ev_tmp ha rfl) (ev_tmp ha rfl), ?_⟩
          | refine ⟨_, fun tm ha => step1_min rfl (ev_tmp ha rfl) (ev_tmp ha rfl), ?_⟩
          | (refine ⟨fun _ => ?_, fun _ => ?_⟩ <;> first | (exfalso; omega) | skip)
          | fail
        refine (lawFiner_spec hB8 hq hr d8).mono ?_
        rintro r H9 ⟨⟨x4, rfl, h4⟩, rfl⟩
        cases x4
        · repeat' first
            | refine CO.cons rfl ?_
            | refine CO.nil ?_
            | refine CV.seq ?_
            | refine CV.region callees ?_
            | refine CV.cond ?_
            | refine CV.block ?_
            | refine CV.skip ?_
            | refine CV.exit ?_
            | refine CV.ret ?_
            | refine CV.scope ?_
            | refine CV.draw callees ?_
            | refine CH.cons rfl ?_
            | refine CH.nil ?_
            | refine CO.consG rfl ?_
            | refine CH.consG rfl ?_
            | refine ⟨(rfl : plain _ = true), ?_⟩
            | refine ⟨(rfl : nilOk _ = some _), ?_⟩
            | refine ⟨_, ints_len (by assumption), ?_⟩
            | refine ⟨_, ints_addr (by assumption) (by omega) (by omega), ?_⟩
            | refine ⟨_, ints_load (by assumption) (by omega) (by omega), ?_⟩
            | refine ⟨(⟨by omega, by omega⟩ : inI64 _), ?_⟩
            | refine ⟨_, fun tm ha => step1_max rfl (ev_tmp ha rfl) (ev_tmp ha rfl), ?_⟩
            | refine ⟨_, fun tm ha => step1_min rfl (ev_tmp ha rfl) (ev_tmp ha rfl), ?_⟩
            | (refine (finer_yes (by assumption) (by assumption) (by assumption) (by assumption) (by assumption)).mono ?_; rintro r H' ⟨rfl, rfl⟩)
            | (refine (eq_yes (by assumption) (by assumption) (by assumption) (by omega)).mono ?_; rintro r H' ⟨rfl, rfl⟩)
            | refine CallB.known rfl (base_keep hBase kall) hB8 ?_
            | (refine ⟨fun _ => ?_, fun _ => ?_⟩ <;> first | (exfalso; omega) | skip)
            | fail
          exact ⟨rfl, rfl⟩
        · have e2 : Fine js rs := ij.2.2.2 rs (h3.1 rfl) (h4.1 rfl)
          repeat' first
            | refine CO.cons rfl ?_
            | refine CO.nil ?_
            | refine CV.seq ?_
            | refine CV.region callees ?_
            | refine CV.cond ?_
            | refine CV.block ?_
            | refine CV.skip ?_
            | refine CV.exit ?_
            | refine CV.ret ?_
            | refine CV.scope ?_
            | refine CV.draw callees ?_
            | refine CH.cons rfl ?_
            | refine CH.nil ?_
            | refine CO.consG rfl ?_
            | refine CH.consG rfl ?_
            | refine ⟨(rfl : plain _ = true), ?_⟩
            | refine ⟨(rfl : nilOk _ = some _), ?_⟩
            | refine ⟨_, ints_len (by assumption), ?_⟩
            | refine ⟨_, ints_addr (by assumption) (by omega) (by omega), ?_⟩
            | refine ⟨_, ints_load (by assumption) (by omega) (by omega), ?_⟩
            | refine ⟨(⟨by omega, by omega⟩ : inI64 _), ?_⟩
            | refine ⟨_, fun tm ha => step1_max rfl (ev_tmp ha rfl) (ev_tmp ha rfl), ?_⟩
            | refine ⟨_, fun tm ha => step1_min rfl (ev_tmp ha rfl) (ev_tmp ha rfl), ?_⟩
            | (refine (finer_yes (by assumption) (by assumption) (by assumption) (by assumption) (by assumption)).mono ?_; rintro r H' ⟨rfl, rfl⟩)
            | (refine (eq_yes (by assumption) (by assumption) (by assumption) (by omega)).mono ?_; rintro r H' ⟨rfl, rfl⟩)
            | refine CallB.known rfl (base_keep hBase kall) hB8 ?_
            | (refine ⟨fun _ => ?_, fun _ => ?_⟩ <;> first | (exfalso; omega) | skip)
            | fail
          exact ⟨rfl, rfl⟩
end Go.Proofs.YthjieekbbhhjgaaDoor
