
/- SeatNamed: the walk. -/
import Derived.Test.Ytlamceokhbigaaaw1g
import Derived.Test.Ytlamceokhbigaaav5g
set_option linter.unusedVariables false
set_option linter.unusedSimpArgs false
namespace Go.Proofs.Ytlamceokhbigaaa
open Go.AI
theorem full_of {n : Nat} {s : List Int} (h : OrderL s) (hl : s.length = n) : Full n s := by
  refine ⟨?_, fun x hx => ?_, hl⟩
  · rw [List.nodup_iff_pairwise_ne, List.pairwise_iff_getElem]
    intro i j hi hj hij e
    have := h.1 i j hi hj (by rw [getElem!_pos s i hi, getElem!_pos s j hj]; exact e)
    omega
  · obtain ⟨i, hi, e⟩ := List.getElem_of_mem hx
    have := h.2 i hi
    rw [getElem!_pos s i hi, e] at this
    omega
set_option maxHeartbeats 32000000 in
set_option maxRecDepth 100000 in
theorem named_walk {v : Value} {H : Heap} {nums : List Int} (hv : Ints H v nums) (hx : nums.length ≤ 9223372036854775807) :
    CallB Try.prog H.n 12 [v] H (fun r _ => r = .bool true) := by
  have hn : H.n ≤ H.n := Nat.le_refl _
  refine CV.enter callees false rfl Try.func12 rfl (by kernel_rfl) (Nat.le_of_ble_eq_true rfl) hn ?_
  repeat' first
    | refine CO.cons rfl ?_
    | refine CO.nil ?_
    | refine CV.seq ?_
    | refine CV.region callees ?_
    | fail
  refine (boxOf_spec hn hv hx).mono ?_
  rintro r H1 ⟨⟨b, rfl, hb, hbox⟩, k1⟩
  have l1 := k1.1
  have hbn := hbox.1
  repeat' first
    | refine CO.cons rfl ?_
    | refine CO.nil ?_
    | refine CV.seq ?_
    | refine CV.region callees ?_
    | fail
  refine (strict_spec hb l1 hbox).mono ?_
  rintro r H2 ⟨⟨gv, rv, gs, rs, rfl, hg2, hr2, hp⟩, hb2, x2⟩
  have l2 := x2.1
  have hm := hp.m
  have h7 := hp.n7
  repeat' first
    | refine CO.cons rfl ?_
    | (refine ⟨_, _, al25, ?_⟩)
    | fail
  generalize hs3 : Heap.new H2 _ = H3
  have hg3 := new_get hs3
  have k3 := new_keep hs3
  have n3 := new_n hs3
  obtain ⟨b3, hbn3⟩ : ∃ b, Heap.n H2 = b := ⟨_, rfl⟩
  rw [hbn3] at hg3 n3 ⊢
  repeat' first
    | fail
  refine ⟨_, _, st25 hg2.oneC hr2.oneC hg3, by omega, ?_⟩
  generalize hs4 : Heap.set H3 b3 _ = H4
  have hg4 : H4.get b3 = some (.cells (Pal gv rv) 25 1) := set_get hs4
  have n4 := set_n hs4
  have o4 := set_old hs4
  have k24 : Keep H2 H4 := keep_put k3 (by omega) o4 n4
  have l4 := k24.1
  have hg4' : OwnG H4 gv gs H1.n := OwnS.keep hg2 k24
  have hr4 : OwnR H4 rv rs H1.n := OwnS.keep hr2 k24
  have hb4 := hb2.keep k24
  have hb2n := hb2.1
  have hsm : sameFix (Pav gv rv) (Pav gv rv) = true := by
    obtain ⟨x, n, d, rfl⟩ : ∃ x n d, gv = .slice x n d := by
      rcases hg2.2 with ⟨rfl, _⟩ | ⟨_, rfl, _⟩ <;> exact ⟨_, _, _, rfl⟩
    obtain ⟨y, m, e, rfl⟩ : ∃ x n d, rv = .slice x n d := by
      rcases hr2.2 with ⟨rfl, _⟩ | ⟨_, rfl, _⟩ <;> exact ⟨_, _, _, rfl⟩
    exact same_pav hg4'.same hr4.same
  repeat' first
    | refine CO.nil ?_
    | refine CV.seq ?_
    | fail
  refine CV.al callees (by decide +kernel) 7 [(0, []), (1, []), (2, []), (3, []), (4, []), (5, [0]), (6, []), (7, []), (8, [])] (by kernel_rfl) rfl al25 ?_
  repeat' first
    | refine CR.cons ?_
    | (refine ⟨_, ld25 hg4, ?_⟩)
    | (refine ⟨_, fS foP0 (by decide), ?_⟩)
    | (refine ⟨_, cell_load ag22g hg4 rfl, ?_⟩)
    | (refine ⟨_, gs_len hg4'.row, ?_⟩)
    | fail
  refine (order_spec hb (by omega) hb4 (show gs.length ≤ 100 by omega)).mono ?_
  rintro ov H5 ⟨⟨s, hso, hsl, hs5⟩, hb5, x5⟩
  have l5 := x5.1
  have hf := full_of hso hsl
  have hP5 := (x5.2 b3 (by omega) (by omega)).trans hg4
  have hg5 : OwnG H5 gv gs H1.n := OwnS.boxed hg4' x5 hb4
  have hr5 : OwnR H5 rv rs H1.n := OwnS.boxed hr4 x5 hb4
  repeat' first
    | refine CR.cons ?_
    | (refine ⟨_, ld25 hP5, ?_⟩)
    | (refine ⟨(rfl : _ = Pav _ _), ?_⟩)
    | (refine ⟨hsm, ?_⟩)
    | fail
  refine (namedParty_spec (by omega) hg5 hr5 hp hs5.row hf).mono ?_
  rintro w H6 ⟨⟨c, t, gs', rfl, hc6, ht6, hN, hp'⟩, k6⟩
  have l6 := k6.1
  repeat' first
    | refine CR.cons ?_
    | (refine ⟨_, _, al25, ?_⟩)
    | fail
  generalize hs7 : Heap.new H6 _ = H7
  have hg7 := new_get hs7
  have k7 := new_keep hs7
  have n7 := new_n hs7
  obtain ⟨b7, hbn7⟩ : ∃ b, Heap.n H6 = b := ⟨_, rfl⟩
  rw [hbn7] at hg7 n7 ⊢
  repeat' first
    | fail
  refine ⟨_, _, st25 hc6.oneC ht6.oneC hg7, by omega, ?_⟩
  generalize hs8 : Heap.set H7 b7 _ = H8
  have hg8 : H8.get b7 = some (.cells (Pal c t) 25 1) := set_get hs8
  have n8 := set_n hs8
  have o8 := set_old hs8
  have k68 : Keep H6 H8 := keep_put k7 (by omega) o8 n8
  have l8 := k68.1
  have k58 := k6.trans k68
  have hP8 := (k58.2 b3 (by omega)).trans hP5
  have hg8' : OwnG H8 gv gs H1.n := OwnS.keep hg5 k58
  have hr8 : OwnR H8 rv rs H1.n := OwnS.keep hr5 k58
  have hc8 : OwnG H8 c gs' H5.n := OwnS.keep hc6 k68
  have ht8 : OwnR H8 t (rs.map (nmR s)) H5.n := OwnS.keep ht6 k68
  have hlen := okL_nm_len hN hp
  have hbst := best_nm hN hp
  repeat' first
    | refine CO.cons rfl ?_
    | refine CV.seq ?_
    | refine CV.region callees ?_
    | refine CR.nil ?_
    | (refine ⟨_, ld25 hP8, ?_⟩)
    | fail
  refine (count_spec (by omega) hg8'.row hg8'.same hr8.row hp).mono ?_
  rintro w I1 ⟨rfl, j1⟩
  have m1 := j1.1
  repeat' first
    | refine CO.cons rfl ?_
    | refine CO.nil ?_
    | refine CV.seq ?_
    | refine CV.region callees ?_
    | (refine ⟨_, ld25 ((j1.2 b7 (by omega)).trans hg8), ?_⟩)
    | fail
  refine (count_spec (by omega) (hc8.keep j1).row hc8.same (ht8.keep j1).row hp').mono ?_
  rw [hlen]
  rintro w I2 ⟨rfl, j2⟩
  have m2 := j2.1
  have j12 := j1.trans j2
  repeat' first
    | refine CO.cons rfl ?_
    | refine CO.nil ?_
    | refine CV.seq ?_
    | refine CV.region callees ?_
    | (refine ⟨_, ld25 ((j12.2 b3 (by omega)).trans hP8), ?_⟩)
    | fail
  refine (best_spec (by omega) (hg8'.keep j12).row hg8'.same (hr8.keep j12).row hp).mono ?_
  rintro w I3 ⟨⟨q3, p3, c3, rfl, hb3⟩, j3⟩
  have m3 := j3.1
  have j13 := j12.trans j3
  repeat' first
    | refine CO.cons rfl ?_
    | refine CO.nil ?_
    | refine CV.seq ?_
    | refine CV.region callees ?_
    | (refine ⟨_, ld25 ((j13.2 b7 (by omega)).trans hg8), ?_⟩)
    | fail
  refine (best_spec (by omega) (hc8.keep j13).row hc8.same (ht8.keep j13).row hp').mono ?_
  rintro w I4 ⟨⟨q4, p4, c4, rfl, hb4'⟩, j4⟩
  have m4 := j4.1
  have j14 := j13.trans j4
  repeat' first
    | refine CO.cons rfl ?_
    | refine CO.nil ?_
    | refine CV.seq ?_
    | refine CV.region callees ?_
    | (refine ⟨_, ld25 ((j14.2 b3 (by omega)).trans hP8), ?_⟩)
    | fail
  refine (conflict_spec (by omega) (hg8'.keep j14).row hg8'.same (hr8.keep j14).row hp).mono ?_
  rintro w I5 ⟨hw5, j5⟩
  have m5 := j5.1
  have j15 := j14.trans j5
  have e34 : p3 = p4 ∧ c3 = c4 := by
    rcases hbst with ⟨e1, e2⟩ | ⟨bb, cc, p, e1, e2⟩
    · rcases hb3 with ⟨_, _, rfl, rfl⟩ | ⟨_, e, _⟩
      · rcases hb4' with ⟨_, _, rfl, rfl⟩ | ⟨_, e, _⟩
        · exact ⟨rfl, rfl⟩
        · rw [e2] at e; cases e
      · rw [e1] at e; cases e
    · rcases hb3 with ⟨e, _⟩ | ⟨_, e, rfl, _⟩
      · rw [e1] at e; cases e
      · rcases hb4' with ⟨e', _⟩ | ⟨_, e', rfl, _⟩
        · rw [e2] at e'; cases e'
        · rw [e1] at e
          rw [e2] at e'
          cases e
          cases e'
          exact ⟨rfl, rfl⟩
  obtain ⟨rfl, rfl⟩ := e34
  have hiff : okL gs rs = [] ↔ okL gs' (rs.map (nmR s)) = [] := by
    rw [← List.length_eq_zero_iff, ← List.length_eq_zero_iff, hlen]
  rcases hw5 with ⟨hne, rfl⟩ | ⟨hno, q5, A, hA, rfl, hq5⟩
  · repeat' first
      | refine CO.cons rfl ?_
      | refine CO.nil ?_
      | refine CV.seq ?_
      | refine CV.region callees ?_
      | (refine ⟨_, ld25 ((j15.2 b7 (by omega)).trans hg8), ?_⟩)
      | fail
    refine (conflict_spec (by omega) (hc8.keep j15).row hc8.same (ht8.keep j15).row hp').mono ?_
    rintro w I6 ⟨⟨_, rfl⟩ | ⟨hno, _⟩, j6⟩
    rotate_left
    · exact absurd (hiff.2 hno) hne
    have m6 := j6.1
    obtain ⟨zz, hzz⟩ : ∃ zz : List Int, zz = [] := ⟨_, rfl⟩
    have hnil : Ints I6 nilS zz := .inl ⟨rfl, by rw [hzz]; rfl⟩
    repeat' first
      | refine CO.cons rfl ?_
      | refine CO.nil ?_
      | refine CV.seq ?_
      | refine CV.region callees ?_
      | refine CO.consG rfl ?_
      | refine ⟨_, ints_len (by assumption), ?_⟩
      | (refine ⟨fun _ => ?_, fun _ => ?_⟩ <;> first | (exfalso; omega) | skip)
      | fail
    refine (awakeC_spec (by omega)).mono ?_
    rintro r HZ ⟨rfl, kz⟩
    repeat' first
      | refine CO.cons rfl ?_
      | refine CO.nil ?_
      | refine CV.ret ?_
      | fail
    exact ⟨rfl, rfl⟩
  · repeat' first
      | refine CO.cons rfl ?_
      | refine CO.nil ?_
      | refine CV.seq ?_
      | refine CV.region callees ?_
      | (refine ⟨_, ld25 ((j15.2 b7 (by omega)).trans hg8), ?_⟩)
      | fail
    refine (conflict_spec (by omega) (hc8.keep j15).row hc8.same (ht8.keep j15).row hp').mono ?_
    rintro w I6 ⟨⟨hne, _⟩ | ⟨_, q6, A', hA', rfl, hq6⟩, j6⟩
    · exact absurd (hiff.1 hno) hne
    have m6 := j6.1
    rw [conf_nm hN hp hA hA'] at hq6
    generalize fewK (strN rs rs.length) 12 A (strN rs rs.length) = l at hq5 hq6
    have hi5 : Ints I6 q5 l := (Own.keep hq5 j6).row
    have hi6 : Ints I6 q6 l := hq6.row
    repeat' first
      | refine CO.cons rfl ?_
      | refine CO.nil ?_
      | refine CV.seq ?_
      | refine CV.region callees ?_
      | refine CO.consG rfl ?_
      | refine ⟨_, ints_len (by assumption), ?_⟩
      | (refine ⟨fun _ => ?_, fun _ => ?_⟩ <;> first | (exfalso; omega) | skip)
      | fail
    refine (awakeC_spec (by omega)).mono ?_
    rintro r HZ ⟨rfl, kz⟩
    repeat' first
      | refine CO.cons rfl ?_
      | refine CO.nil ?_
      | refine CV.ret ?_
      | fail
    exact ⟨rfl, rfl⟩
end Go.Proofs.Ytlamceokhbigaaa

