
/- What an order costs; a party that is turned. -/
import Derived.Test.YtlamceokhbigaaaTfg
import Derived.Test.YtlamceokhbigaaaTig
import Derived.Test.YtlamceokhbigaaaTjg
set_option linter.unusedVariables false
set_option linter.unusedSimpArgs false
namespace Go.Proofs.Ytlamceokhbigaaa
open Go.AI
theorem same_pav {x y : Option Addr} {n m c d : Nat} (h1 : sameFix (.slice x n c) (.slice x n c) = true) (h2 : sameFix (.slice y m d) (.slice y m d) = true) : sameFix (Pav (.slice x n c) (.slice y m d)) (Pav (.slice x n c) (.slice y m d)) = true := by
  have e1 : sameFix1 (.slice x n c) (.slice x n c) = true := h1
  have e2 : sameFix1 (.slice y m d) (.slice y m d) = true := h2
  simp [sameFix, sameFixL, e1, e2]
set_option maxHeartbeats 4000000 in
set_option maxRecDepth 100000 in
theorem price_spec {B g0 r0 : Nat} {H : Heap} {gv rv ov : Value} {gs : List Gu} {rs : List Ru} {o : List Int} (hB : B ≤ H.n) (hg : OwnG H gv gs g0) (hr : OwnR H rv rs r0) (ho : Ints H ov o) (hp : PaOk gs rs) (hf : Full gs.length o) :
    CallB Try.prog B 23 [Pav gv rv, ov] H (fun v H' => (∃ q, v = .tuple #[q, VI (prO gs rs o), VI 0]) ∧ Keep H H') := by
  have hm := hp.m
  have h7 := hp.n7
  obtain ⟨x, n, c, rfl⟩ : ∃ x n c, gv = .slice x n c := by
    rcases hg.2 with ⟨rfl, _⟩ | ⟨_, rfl, _⟩ <;> exact ⟨_, _, _, rfl⟩
  obtain ⟨y, m, d, rfl⟩ : ∃ x n d, rv = .slice x n d := by
    rcases hr.2 with ⟨rfl, _⟩ | ⟨_, rfl, _⟩ <;> exact ⟨_, _, _, rfl⟩
  have hsm := same_pav hg.same hr.same
  have hw : ∀ i, i < rs.length → 0 ≤ rs[i]!.wt ∧ rs[i]!.wt ≤ 1000 := fun i hi => ⟨(hp.rk i hi).w, (hp.rk i hi).w'⟩
  have hbk : brkO gs rs o < 2 ^ 32 := Nat.lt_of_lt_of_le (brkN_lt _) (Nat.pow_le_pow_right (by decide) (by omega))
  refine CV.enter callees false rfl Try.func23 rfl (by kernel_rfl) (Nat.le_of_ble_eq_true rfl) hB ?_
  repeat' first
    | refine CO.cons rfl ?_
    | refine CO.nil ?_
    | refine CV.seq ?_
    | refine CV.region callees ?_
    | refine CV.cond ?_
    | refine CV.block ?_
    | refine CV.skip ?_
    | refine CV.exit ?_
    | refine CV.ret ?_
    | refine CV.scope ?_
    | refine CV.draw callees (by decide +kernel) ?_
    | refine CH.cons rfl ?_
    | refine CH.nil ?_
    | refine CO.consG rfl ?_
    | refine CH.consG rfl ?_
    | refine CG.cons rfl ?_
    | refine CR.cons ?_
    | refine CR.nil ?_
    | refine CG.nil ?_
    | refine CG.consG rfl ?_
    | refine ⟨(rfl : plain _ = true), ?_⟩
    | refine ⟨(rfl : nilOk _ = some _), ?_⟩
    | refine ⟨_, ints_len (by assumption), ?_⟩
    | refine ⟨_, ints_addr (by assumption) (by omega) (by omega), ?_⟩
    | refine ⟨_, ints_load (by assumption) (by omega) (by omega), ?_⟩
    | refine ⟨(⟨by omega, by omega⟩ : inI64 _), ?_⟩
    | refine ⟨_, fun tm ha => step1_max rfl (ev_tmp ha rfl) (ev_tmp ha rfl), ?_⟩
    | refine ⟨_, fun tm ha => step1_min rfl (ev_tmp ha rfl) (ev_tmp ha rfl), ?_⟩
    | (refine ⟨fun _ => ?_, fun _ => ?_⟩ <;> first | (exfalso; omega) | skip)
    | fail
  refine ⟨(by simp only [notTuple]), ?_⟩
  rw [boxP hg.row.cells.1 hr.row.cells.1]
  generalize hs0 : Heap.new H _ = H0
  have hg0 := new_get hs0
  have k0 := new_keep hs0
  have n0 := new_n hs0
  obtain ⟨b0, hbn0⟩ : ∃ b, Heap.n H = b := ⟨_, rfl⟩
  rw [hbn0] at hg0 n0 ⊢
  repeat' first
    | refine CO.cons rfl ?_
    | refine CO.nil ?_
    | refine CV.seq ?_
    | refine CV.region callees ?_
    | refine CV.cond ?_
    | refine CV.block ?_
    | refine CV.skip ?_
    | refine CV.exit ?_
    | refine CV.ret ?_
    | refine CV.scope ?_
    | refine CV.draw callees (by decide +kernel) ?_
    | refine CH.cons rfl ?_
    | refine CH.nil ?_
    | refine CO.consG rfl ?_
    | refine CH.consG rfl ?_
    | refine CG.cons rfl ?_
    | refine CR.cons ?_
    | refine CR.nil ?_
    | refine CG.nil ?_
    | refine CG.consG rfl ?_
    | refine ⟨(rfl : plain _ = true), ?_⟩
    | refine ⟨(rfl : nilOk _ = some _), ?_⟩
    | refine ⟨_, ints_len (by assumption), ?_⟩
    | refine ⟨_, ints_addr (by assumption) (by omega) (by omega), ?_⟩
    | refine ⟨_, ints_load (by assumption) (by omega) (by omega), ?_⟩
    | refine ⟨(⟨by omega, by omega⟩ : inI64 _), ?_⟩
    | refine ⟨_, fun tm ha => step1_max rfl (ev_tmp ha rfl) (ev_tmp ha rfl), ?_⟩
    | refine ⟨_, fun tm ha => step1_min rfl (ev_tmp ha rfl) (ev_tmp ha rfl), ?_⟩
    | (refine ⟨_, ld25 hg0, ?_⟩)
    | (refine ⟨fun _ => ?_, fun _ => ?_⟩ <;> first | (exfalso; omega) | skip)
    | fail
  refine (check_spec (by omega) (hg.keep k0).row (hr.keep k0).row hp).mono ?_
  rintro v H1 ⟨rfl, k1⟩
  have l1 := k1.1
  have k01 := k0.trans k1
  have hP1 := (k1.2 b0 (by omega)).trans hg0
  repeat' first
    | refine CO.cons rfl ?_
    | refine CO.nil ?_
    | refine CV.seq ?_
    | refine CV.region callees ?_
    | refine CV.cond ?_
    | refine CV.block ?_
    | refine CV.skip ?_
    | refine CV.exit ?_
    | refine CV.ret ?_
    | refine CV.scope ?_
    | refine CV.draw callees (by decide +kernel) ?_
    | refine CH.cons rfl ?_
    | refine CH.nil ?_
    | refine CO.consG rfl ?_
    | refine CH.consG rfl ?_
    | refine CG.cons rfl ?_
    | refine CR.cons ?_
    | refine CR.nil ?_
    | refine CG.nil ?_
    | refine CG.consG rfl ?_
    | refine ⟨(rfl : plain _ = true), ?_⟩
    | refine ⟨(rfl : nilOk _ = some _), ?_⟩
    | refine ⟨_, ints_len (by assumption), ?_⟩
    | refine ⟨_, ints_addr (by assumption) (by omega) (by omega), ?_⟩
    | refine ⟨_, ints_load (by assumption) (by omega) (by omega), ?_⟩
    | refine ⟨(⟨by omega, by omega⟩ : inI64 _), ?_⟩
    | refine ⟨_, fun tm ha => step1_max rfl (ev_tmp ha rfl) (ev_tmp ha rfl), ?_⟩
    | refine ⟨_, fun tm ha => step1_min rfl (ev_tmp ha rfl) (ev_tmp ha rfl), ?_⟩
    | (refine ⟨_, fS foP0 (by decide), ?_⟩)
    | (refine ⟨_, cell_load ag22g hP1 rfl, ?_⟩)
    | (refine ⟨_, gs_len (hg.keep k01).row, ?_⟩)
    | (refine ⟨fun _ => ?_, fun _ => ?_⟩ <;> first | (exfalso; omega) | skip)
    | fail
  refine (isOrder_spec (by omega) (Row.keep ho k01) hf.nd hf.r hf.l h7).mono ?_
  rintro v H2 ⟨rfl, k2⟩
  have l2 := k2.1
  have k02 := k01.trans k2
  have hP2 := (k2.2 b0 (by omega)).trans hP1
  repeat' first
    | refine CO.cons rfl ?_
    | refine CO.nil ?_
    | refine CV.seq ?_
    | refine CV.region callees ?_
    | refine CV.cond ?_
    | refine CV.block ?_
    | refine CV.skip ?_
    | refine CV.exit ?_
    | refine CV.ret ?_
    | refine CV.scope ?_
    | refine CV.draw callees (by decide +kernel) ?_
    | refine CH.cons rfl ?_
    | refine CH.nil ?_
    | refine CO.consG rfl ?_
    | refine CH.consG rfl ?_
    | refine CG.cons rfl ?_
    | refine CR.cons ?_
    | refine CR.nil ?_
    | refine CG.nil ?_
    | refine CG.consG rfl ?_
    | refine ⟨(rfl : plain _ = true), ?_⟩
    | refine ⟨(rfl : nilOk _ = some _), ?_⟩
    | refine ⟨_, ints_len (by assumption), ?_⟩
    | refine ⟨_, ints_addr (by assumption) (by omega) (by omega), ?_⟩
    | refine ⟨_, ints_load (by assumption) (by omega) (by omega), ?_⟩
    | refine ⟨(⟨by omega, by omega⟩ : inI64 _), ?_⟩
    | refine ⟨_, fun tm ha => step1_max rfl (ev_tmp ha rfl) (ev_tmp ha rfl), ?_⟩
    | refine ⟨_, fun tm ha => step1_min rfl (ev_tmp ha rfl) (ev_tmp ha rfl), ?_⟩
    | (refine ⟨_, ld25 hP2, ?_⟩)
    | (refine ⟨fun _ => ?_, fun _ => ?_⟩ <;> first | (exfalso; omega) | skip)
    | fail
  refine (brokenBy_spec (by omega) (hg.keep k02).row hg.same (hr.keep k02).row (Row.keep ho k02) hp hf.pre).mono ?_
  rintro v H3 ⟨rfl, k3⟩
  have l3 := k3.1
  have k03 := k02.trans k3
  have hP3 := (k3.2 b0 (by omega)).trans hP2
  repeat' first
    | refine CO.cons rfl ?_
    | refine CO.nil ?_
    | refine CV.seq ?_
    | refine CV.region callees ?_
    | refine CV.cond ?_
    | refine CV.block ?_
    | refine CV.skip ?_
    | refine CV.exit ?_
    | refine CV.ret ?_
    | refine CV.scope ?_
    | refine CV.draw callees (by decide +kernel) ?_
    | refine CH.cons rfl ?_
    | refine CH.nil ?_
    | refine CO.consG rfl ?_
    | refine CH.consG rfl ?_
    | refine CG.cons rfl ?_
    | refine CR.cons ?_
    | refine CR.nil ?_
    | refine CG.nil ?_
    | refine CG.consG rfl ?_
    | refine ⟨(rfl : plain _ = true), ?_⟩
    | refine ⟨(rfl : nilOk _ = some _), ?_⟩
    | refine ⟨_, ints_len (by assumption), ?_⟩
    | refine ⟨_, ints_addr (by assumption) (by omega) (by omega), ?_⟩
    | refine ⟨_, ints_load (by assumption) (by omega) (by omega), ?_⟩
    | refine ⟨(⟨by omega, by omega⟩ : inI64 _), ?_⟩
    | refine ⟨_, fun tm ha => step1_max rfl (ev_tmp ha rfl) (ev_tmp ha rfl), ?_⟩
    | refine ⟨_, fun tm ha => step1_min rfl (ev_tmp ha rfl) (ev_tmp ha rfl), ?_⟩
    | (refine ⟨fun _ => ?_, fun _ => ?_⟩ <;> first | (exfalso; omega) | skip)
    | fail
  refine CV.wideR callees (by decide +kernel) [(0, []), (2, []), (3, []), (1, [2]), (4, []), (5, []), (6, []), (7, [])] (by kernel_rfl) ?_
  repeat' first
    | refine CO.cons rfl ?_
    | refine CO.nil ?_
    | refine CV.seq ?_
    | refine CV.region callees ?_
    | refine CV.cond ?_
    | refine CV.block ?_
    | refine CV.skip ?_
    | refine CV.exit ?_
    | refine CV.ret ?_
    | refine CV.scope ?_
    | refine CV.draw callees (by decide +kernel) ?_
    | refine CH.cons rfl ?_
    | refine CH.nil ?_
    | refine CO.consG rfl ?_
    | refine CH.consG rfl ?_
    | refine CG.cons rfl ?_
    | refine CR.cons ?_
    | refine CR.nil ?_
    | refine CG.nil ?_
    | refine CG.consG rfl ?_
    | refine ⟨(rfl : plain _ = true), ?_⟩
    | refine ⟨(rfl : nilOk _ = some _), ?_⟩
    | refine ⟨_, ints_len (by assumption), ?_⟩
    | refine ⟨_, ints_addr (by assumption) (by omega) (by omega), ?_⟩
    | refine ⟨_, ints_load (by assumption) (by omega) (by omega), ?_⟩
    | refine ⟨(⟨by omega, by omega⟩ : inI64 _), ?_⟩
    | refine ⟨_, fun tm ha => step1_max rfl (ev_tmp ha rfl) (ev_tmp ha rfl), ?_⟩
    | refine ⟨_, fun tm ha => step1_min rfl (ev_tmp ha rfl) (ev_tmp ha rfl), ?_⟩
    | (refine ⟨_, ld25 hP3, ?_⟩)
    | (refine ⟨fun _ => ?_, fun _ => ?_⟩ <;> first | (exfalso; omega) | skip)
    | fail
  refine (list_spec (by omega) hbk).mono ?_
  rintro v H4 ⟨⟨xs, hxs⟩, k4⟩
  have l4 := k4.1
  have k04 := k03.trans k4
  have hP4 := (k4.2 b0 (by omega)).trans hP3
  repeat' first
    | refine CO.cons rfl ?_
    | refine CO.nil ?_
    | refine CV.seq ?_
    | refine CV.region callees ?_
    | refine CV.cond ?_
    | refine CV.block ?_
    | refine CV.skip ?_
    | refine CV.exit ?_
    | refine CV.ret ?_
    | refine CV.scope ?_
    | refine CV.draw callees (by decide +kernel) ?_
    | refine CH.cons rfl ?_
    | refine CH.nil ?_
    | refine CO.consG rfl ?_
    | refine CH.consG rfl ?_
    | refine CG.cons rfl ?_
    | refine CR.cons ?_
    | refine CR.nil ?_
    | refine CG.nil ?_
    | refine CG.consG rfl ?_
    | refine ⟨(rfl : plain _ = true), ?_⟩
    | refine ⟨(rfl : nilOk _ = some _), ?_⟩
    | refine ⟨_, ints_len (by assumption), ?_⟩
    | refine ⟨_, ints_addr (by assumption) (by omega) (by omega), ?_⟩
    | refine ⟨_, ints_load (by assumption) (by omega) (by omega), ?_⟩
    | refine ⟨(⟨by omega, by omega⟩ : inI64 _), ?_⟩
    | refine ⟨_, fun tm ha => step1_max rfl (ev_tmp ha rfl) (ev_tmp ha rfl), ?_⟩
    | refine ⟨_, fun tm ha => step1_min rfl (ev_tmp ha rfl) (ev_tmp ha rfl), ?_⟩
    | (refine ⟨_, ld25 hP4, ?_⟩)
    | (refine ⟨(rfl : _ = Pav _ _), ?_⟩)
    | (refine ⟨hsm, ?_⟩)
    | (refine ⟨fun _ => ?_, fun _ => ?_⟩ <;> first | (exfalso; omega) | skip)
    | fail
  refine (priceOf_spec (by omega) (hg.keep k04).row (hr.keep k04).row hm (Nat.lt_trans hbk (by decide)) hw).mono ?_
  rintro w H5 ⟨rfl, k5⟩
  repeat' first
    | refine CO.cons rfl ?_
    | refine CO.nil ?_
    | refine CV.seq ?_
    | refine CV.region callees ?_
    | refine CV.cond ?_
    | refine CV.block ?_
    | refine CV.skip ?_
    | refine CV.exit ?_
    | refine CV.ret ?_
    | refine CV.scope ?_
    | refine CV.draw callees (by decide +kernel) ?_
    | refine CH.cons rfl ?_
    | refine CH.nil ?_
    | refine CO.consG rfl ?_
    | refine CH.consG rfl ?_
    | refine CG.cons rfl ?_
    | refine CR.cons ?_
    | refine CR.nil ?_
    | refine CG.nil ?_
    | refine CG.consG rfl ?_
    | refine ⟨(rfl : plain _ = true), ?_⟩
    | refine ⟨(rfl : nilOk _ = some _), ?_⟩
    | refine ⟨_, ints_len (by assumption), ?_⟩
    | refine ⟨_, ints_addr (by assumption) (by omega) (by omega), ?_⟩
    | refine ⟨_, ints_load (by assumption) (by omega) (by omega), ?_⟩
    | refine ⟨(⟨by omega, by omega⟩ : inI64 _), ?_⟩
    | refine ⟨_, fun tm ha => step1_max rfl (ev_tmp ha rfl) (ev_tmp ha rfl), ?_⟩
    | refine ⟨_, fun tm ha => step1_min rfl (ev_tmp ha rfl) (ev_tmp ha rfl), ?_⟩
    | (refine ⟨fun _ => ?_, fun _ => ?_⟩ <;> first | (exfalso; omega) | skip)
    | fail
  exact ⟨by simp only [List.all_cons, List.all_nil, hxs.notTuple]; rfl, ⟨v, rfl⟩, k04.trans k5⟩
theorem nil_row {s : Nat} {H : Heap} {v : Value} {rs : List (List Value)} {j : Nat} (h : RowS s H v rs) (hj : j < rs.length) : nilOk (elemS v s j) = some (elemS v s j) := by
  rcases h.2 with ⟨_, h⟩ | ⟨_, h⟩ | ⟨b, o, c, cs, e, k, rfl, _⟩
  · subst h; simp at hj
  · subst h; simp at hj
  · rfl
theorem ru_nil {H : Heap} {v : Value} {l : List Ru} {j : Nat} (h : RowS 4 H v (l.map Rul)) (hj : j < l.length) : nilOk (elemS v 4 j) = some (elemS v 4 j) := nil_row h (by rw [List.length_map]; exact hj)
theorem ru_f {H : Heap} {v : Value} {l : List Ru} (h : RowS 4 H v (l.map Rul)) {f o n j : Nat} (hf : fieldOff Try.prog 81 f = some (o, n)) (hn : n ≠ 0) (hj : j < l.length) : afieldAddr Try.prog 81 (elemS v 4 j) f = some (fieldOf (elemS v 4 j) o) := h.faddr hf hn (by rw [List.length_map]; exact hj)
theorem ru_l {H : Heap} {v : Value} {l : List Ru} (h : RowS 4 H v (l.map Rul)) {o j : Nat} {w : Value} (hj : j < l.length) (ho : (Rul l[j]!)[o]? = some w) : aload Try.prog 3 H (fieldOf (elemS v 4 j) o) = some w := h.fload ag3 (ru_at hj) ho
theorem upd_at {α : Type} [Inhabited α] {f : α → α} {ls gs : List α} {i : Nat} {y : α} (hl : ls.length = gs.length) (hi : i < gs.length) (hy : y = f gs[i]!) (h : ∀ j, j < gs.length → ls[j]! = if j < i then f gs[j]! else gs[j]!) :
    (ls.set i y).length = gs.length ∧ ∀ j, j < gs.length → (ls.set i y)[j]! = if j < i + 1 then f gs[j]! else gs[j]! := by
  refine ⟨by rw [List.length_set]; exact hl, fun j hj => ?_⟩
  rw [getElem!_pos (ls.set i y) j (by rw [List.length_set]; omega), List.getElem_set]
  split
  · rename_i e
    subst e
    rw [if_pos (by omega), hy]
  · rename_i e
    have h1 := h j hj
    rw [getElem!_pos ls j (by omega)] at h1
    rw [h1]
    by_cases c : j < i
    · rw [if_pos c, if_pos (by omega)]
    · rw [if_neg c, if_neg (by omega)]
theorem upd_end {α : Type} [Inhabited α] {f : α → α} {ls gs : List α} {i : Nat} (hl : ls.length = gs.length) (hi : i = gs.length) (h : ∀ j, j < gs.length → ls[j]! = if j < i then f gs[j]! else gs[j]!) : ls = gs.map f := by
  apply List.ext_getElem (by rw [List.length_map]; exact hl)
  intro j h1 h2
  have h3 := h j (by omega)
  rw [if_pos (by omega), getElem!_pos ls j h1, getElem!_pos gs j (by omega)] at h3
  rw [h3, List.getElem_map]
theorem turnG_ok {gs : List Gu} {rs : List Ru} (h : PaOk gs rs) : PaOk (gs.map turnG) (rs.map turnR) := by
  have h1 := h.n1
  have h7 := h.n7
  have hm := h.m
  refine ⟨by rw [List.length_map]; exact h1, by rw [List.length_map]; exact h7, ⟨fun i hi => ?_, fun i j hij hj => ?_⟩, by rw [List.length_map]; exact hm, fun i hi => ?_⟩
  · rw [List.length_map] at hi
    rw [map_at hi]
    have g := h.gk.ok i hi
    have a := g.ra
    have b := g.ra'
    exact ⟨g.nm, (by show 0 ≤ 9 - gs[i]!.ra; omega), (by show 9 - gs[i]!.ra ≤ 9; omega), g.ho, g.ho', g.ne, g.ne', g.ma, g.ma'⟩
  · rw [List.length_map] at hj
    rw [map_at (by omega), map_at hj]
    exact h.gk.ne i j hij hj
  · rw [List.length_map] at hi
    rw [map_at hi, List.length_map]
    have r := h.rk i hi
    have k1 := r.k1
    have k6 := r.k6
    have ra := r.a
    have rb := r.b
    have ra0 := r.a0
    have rb0 := r.b0
    have w := r.w
    have w' := r.w'
    generalize rs[i]! = q at *
    unfold turnR
    split
    · rename_i c
      have ra := ra (by omega)
      have rb := rb (by omega)
      exact ⟨k1, k6, fun _ => ⟨rb.1, rb.2.1⟩, fun hh => absurd c (by have : (5 : Int) < q.kd := hh; omega), fun _ => ⟨ra.1, ra.2, fun e => rb.2.2 e.symm⟩, fun hh => absurd c (by have : (3 : Int) < q.kd := hh; omega), w, w'⟩
    · split
      · rename_i c1 c
        exact ⟨(by show (1 : Int) ≤ 5; decide), (by show (5 : Int) ≤ 6; decide), fun _ => ra (by omega), fun hh => absurd hh (by show ¬ (5 : Int) < 5; decide), fun hh => absurd hh (by show ¬ (5 : Int) ≤ 3; decide), fun _ => rb0 (by omega), w, w'⟩
      · split
        · rename_i c1 c4 c
          exact ⟨(by show (1 : Int) ≤ 4; decide), (by show (4 : Int) ≤ 6; decide), fun _ => ra (by omega), fun hh => absurd hh (by show ¬ (5 : Int) < 4; decide), fun hh => absurd hh (by show ¬ (4 : Int) ≤ 3; decide), fun _ => rb0 (by omega), w, w'⟩
        · exact r
end Go.Proofs.Ytlamceokhbigaaa
