
/- SeatConflict: the walk. -/
import Derived.Test.Ytlamceokhbigaaav3g
import Derived.Test.Ytlamceokhbigaaav4g
set_option linter.unusedVariables false
set_option linter.unusedSimpArgs false
namespace Go.Proofs.Ytlamceokhbigaaa
open Go.AI
set_option maxRecDepth 100000 in
theorem awakeC_spec {B : Nat} {H : Heap} (hB : B ≤ H.n) :
    CallB Try.prog B 17 [] H (fun r H' => r = .bool true ∧ Keep H H') :=
  CallB.known (v := .bool true) rfl trivial (by omega) ⟨rfl, Keep.refl _⟩
set_option maxHeartbeats 32000000 in
set_option maxRecDepth 100000 in
theorem conflict_walk {v : Value} {H : Heap} {nums : List Int} (hv : Ints H v nums) (hx : nums.length ≤ 9223372036854775807) :
    CallB Try.prog H.n 9 [v] H (fun r _ => r = .bool true) := by
  have hn : H.n ≤ H.n := Nat.le_refl _
  refine CV.enter callees false rfl Try.func9 rfl (by kernel_rfl) (Nat.le_of_ble_eq_true rfl) hn ?_
  repeat' first
    | refine CO.cons rfl ?_
    | refine CO.nil ?_
    | refine CV.seq ?_
    | refine CV.region callees ?_
    | fail
  refine (boxOf_spec hn hv hx).mono ?_
  rintro r H1 ⟨⟨b, rfl, hb, hbox⟩, k1⟩
  have l1 := k1.1
  have hbn := hbox.1
  repeat' first
    | refine CO.cons rfl ?_
    | fail
  refine (strict_spec hb l1 hbox).mono ?_
  rintro r H2 ⟨⟨gv, rv, gs, rs, rfl, hg2, hr2, hp⟩, hb2, x2⟩
  have l2 := x2.1
  have hm := hp.m
  repeat' first
    | refine CO.cons rfl ?_
    | (refine ⟨_, _, al25, ?_⟩)
    | fail
  generalize hs3 : Heap.new H2 _ = H3
  have hg3 := new_get hs3
  have k3 := new_keep hs3
  have n3 := new_n hs3
  obtain ⟨b3, hbn3⟩ : ∃ b, Heap.n H2 = b := ⟨_, rfl⟩
  rw [hbn3] at hg3 n3 ⊢
  repeat' first
    | fail
  refine ⟨_, _, st25 hg2.oneC hr2.oneC hg3, by omega, ?_⟩
  generalize hs4 : Heap.set H3 b3 _ = H4
  have hg4 : H4.get b3 = some (.cells (Pal gv rv) 25 1) := set_get hs4
  have n4 := set_n hs4
  have o4 := set_old hs4
  have k24 : Keep H2 H4 := keep_put k3 (by omega) o4 n4
  have l4 := k24.1
  have hg4' : OwnG H4 gv gs H1.n := OwnS.keep hg2 k24
  have hr4 : OwnR H4 rv rs H1.n := OwnS.keep hr2 k24
  repeat' first
    | refine CO.cons rfl ?_
    | refine CO.nil ?_
    | refine CV.seq ?_
    | refine CV.region callees ?_
    | (refine ⟨_, ld25 hg4, ?_⟩)
    | fail
  refine (count_spec (by omega) hg4'.row hg4'.same hr4.row hp).mono ?_
  rintro w H5 ⟨rfl, k5⟩
  have l5 := k5.1
  have hP5 := (k5.2 b3 (by omega)).trans hg4
  have hg5 : OwnG H5 gv gs H1.n := OwnS.keep hg4' k5
  have hr5 : OwnR H5 rv rs H1.n := OwnS.keep hr4 k5
  repeat' first
    | refine CO.cons rfl ?_
    | refine CO.nil ?_
    | refine CV.seq ?_
    | refine CV.region callees ?_
    | (refine ⟨_, ld25 hP5, ?_⟩)
    | fail
  refine (conflict_spec (by omega) hg5.row hg5.same hr5.row hp).mono ?_
  rintro w H6 ⟨⟨hne, rfl⟩ | ⟨hno, q, A, hA, rfl, hq⟩, k6⟩
  · have l6 := k6.1
    have hlen : 0 < (okL gs rs).length := List.length_pos_iff.2 hne
    repeat' first
      | refine CO.cons rfl ?_
      | refine CO.nil ?_
      | refine CV.seq ?_
      | refine CV.region callees ?_
      | refine CV.cond ?_
      | refine CV.skip ?_
      | refine CO.consG rfl ?_
      | (refine ⟨_, fun tm ha => step1_boolNeq un4 rfl (ev_tmp ha rfl) (ev_tmp ha rfl), ?_⟩)
      | (refine ⟨fun _ => ?_, fun _ => ?_⟩ <;> first | (exfalso; omega) | skip)
      | fail
    refine (awakeC_spec (by omega)).mono ?_
    rintro r HZ ⟨rfl, kz⟩
    repeat' first
      | refine CO.cons rfl ?_
      | refine CO.nil ?_
      | refine CV.ret ?_
      | fail
    exact ⟨rfl, rfl⟩
  have l6 := k6.1
  have hc := conf_ok (m := 12) hA hm
  generalize fewK (strN rs rs.length) 12 A (strN rs rs.length) = l at hq hc
  have hl12 : l.length ≤ 12 := by
    have h1 : l.Nodup := List.Pairwise.imp (fun h => by omega) hc.asc
    have h2 : l ⊆ (List.range rs.length).map (fun (k : Nat) => (k : Int)) := by
      intro x hx
      have := hc.r x hx
      exact List.mem_map.2 ⟨x.toNat, List.mem_range.2 (by omega), by omega⟩
    have := h1.length_le_of_subset h2
    rw [List.length_map, List.length_range] at this
    omega
  have hP6 := (k6.2 b3 (by omega)).trans hP5
  have hg6 : OwnG H6 gv gs H1.n := OwnS.keep hg5 k6
  have hr6 : OwnR H6 rv rs H1.n := OwnS.keep hr5 k6
  have hqi : Ints H6 q l := hq.row
  have hlz : (okL gs rs).length = 0 := by rw [hno]; rfl
  rw [hlz]
  repeat' first
    | refine CO.cons rfl ?_
    | refine CO.nil ?_
    | refine CV.seq ?_
    | refine CV.region callees ?_
    | refine CV.cond ?_
    | refine CV.block ?_
    | refine CV.skip ?_
    | refine CO.consG rfl ?_
    | (refine ⟨_, fun tm ha => step1_boolNeq un4 rfl (ev_tmp ha rfl) (ev_tmp ha rfl), ?_⟩)
    | (refine ⟨fun _ => ?_, fun _ => ?_⟩ <;> first | (exfalso; omega) | skip)
    | fail
  refine CV.loopc ?_
  refine WCv.rounds callees false (α := Nat) (fun i => [(3, .pointer (some ⟨b3, 0, none⟩)), (6, q), (8, VI i)]) (fun i Hz => i ≤ l.length ∧ Hz = H6) (fun i => l.length - i) (0) (by repeat' first | exact trivial | refine ⟨rfl, ?_⟩ | refine ⟨slot_int (by (try simp only [Int.toNat_natCast]); omega), ?_⟩) ?_ ?_
  · exact ⟨by omega, rfl⟩
  rintro i Hx ⟨hi, rfl⟩ hBx
  by_cases hi2 : i < l.length
  · have hmem : l[i]! ∈ l := by rw [getElem!_pos l i hi2]; exact List.getElem_mem _
    have hb := hc.r _ hmem
    have hxi : l[(i : Int).toNat]! = l[i]! := rfl
    have hlt : l[i]!.toNat < rs.length := by omega
    have hwi : rs[l[(i : Int).toNat]!.toNat]!.wt = 0 := hb.2.2
    by_cases h0 : i = 0
    · repeat' first
        | refine CO.cons rfl ?_
        | refine CO.nil ?_
        | refine CV.seq ?_
        | refine CV.region callees ?_
        | refine CV.cond ?_
        | refine CV.block ?_
        | refine CV.skip ?_
        | refine CV.draw callees (by decide +kernel) ?_
        | refine CH.cons rfl ?_
        | refine CH.nil ?_
        | refine CH.consG rfl ?_
        | refine ⟨_, ints_len (by assumption), ?_⟩
        | refine ⟨_, ints_addr (by assumption) (by omega) (by omega), ?_⟩
        | refine ⟨_, ints_load (by assumption) (by omega) (by omega), ?_⟩
        | refine ⟨(⟨by omega, by omega⟩ : inI64 _), ?_⟩
        | (refine ⟨_, fS foP1 (by decide), ?_⟩)
        | (refine ⟨_, cell_load ag23r hP6 rfl, ?_⟩)
        | (refine ⟨_, rs_len hr6.row, ?_⟩)
        | (refine ⟨_, rs_addr hr6.row (by omega) (by omega), ?_⟩)
        | (refine ⟨_, ru_f hr6.row foR3 (by decide) hlt, ?_⟩)
        | (refine ⟨_, ru_l hr6.row (o := 3) hlt rfl, ?_⟩)
        | (refine ⟨fun _ => ?_, fun _ => ?_⟩ <;> first | (exfalso; omega) | skip)
        | fail
      refine ⟨(i + 1), (by repeat' first | exact trivial | refine ⟨rfl, ?_⟩ | refine ⟨slot_int (by (try simp only [Int.toNat_natCast]); omega), ?_⟩), (by (try dsimp only); omega), ?_⟩
      exact ⟨by omega, rfl⟩
    · have hprev : l[((i : Int) - 1).toNat]! < l[i]! := by
        rw [show ((i : Int) - 1).toNat = i - 1 by omega, getElem!_pos l (i - 1) (by omega), getElem!_pos l i hi2]
        exact List.pairwise_iff_getElem.1 hc.asc (i - 1) i (by omega) hi2 (by omega)
      repeat' first
        | refine CO.cons rfl ?_
        | refine CO.nil ?_
        | refine CV.seq ?_
        | refine CV.region callees ?_
        | refine CV.cond ?_
        | refine CV.block ?_
        | refine CV.skip ?_
        | refine CV.draw callees (by decide +kernel) ?_
        | refine CH.cons rfl ?_
        | refine CH.nil ?_
        | refine CH.consG rfl ?_
        | refine ⟨_, ints_len (by assumption), ?_⟩
        | refine ⟨_, ints_addr (by assumption) (by omega) (by omega), ?_⟩
        | refine ⟨_, ints_load (by assumption) (by omega) (by omega), ?_⟩
        | refine ⟨(⟨by omega, by omega⟩ : inI64 _), ?_⟩
        | (refine ⟨_, fS foP1 (by decide), ?_⟩)
        | (refine ⟨_, cell_load ag23r hP6 rfl, ?_⟩)
        | (refine ⟨_, rs_len hr6.row, ?_⟩)
        | (refine ⟨_, rs_addr hr6.row (by omega) (by omega), ?_⟩)
        | (refine ⟨_, ru_f hr6.row foR3 (by decide) hlt, ?_⟩)
        | (refine ⟨_, ru_l hr6.row (o := 3) hlt rfl, ?_⟩)
        | (refine ⟨fun _ => ?_, fun _ => ?_⟩ <;> first | (exfalso; omega) | skip)
        | fail
      refine ⟨(i + 1), (by repeat' first | exact trivial | refine ⟨rfl, ?_⟩ | refine ⟨slot_int (by (try simp only [Int.toNat_natCast]); omega), ?_⟩), (by (try dsimp only); omega), ?_⟩
      exact ⟨by omega, rfl⟩
  obtain rfl : i = l.length := by omega
  have hli : ∀ x ∈ l, 0 ≤ x ∧ x < rs.length := fun x hx => ⟨(hc.r x hx).1, (hc.r x hx).2.1⟩
  have hpo := only_pa hp hl12 hli
  repeat' first
    | refine CO.cons rfl ?_
    | refine CO.nil ?_
    | refine CV.seq ?_
    | refine CV.region callees ?_
    | refine CV.cond ?_
    | refine CV.exit ?_
    | refine ⟨_, ints_len (by assumption), ?_⟩
    | (refine ⟨_, ld25 hP6, ?_⟩)
    | (refine ⟨fun _ => ?_, fun _ => ?_⟩ <;> first | (exfalso; omega) | skip)
    | fail
  refine (only_spec (by omega) hg6 hr6 hqi (by omega) hli).mono ?_
  rintro w H7 ⟨⟨q7, rfl, hq7⟩, k7⟩
  have l7 := k7.1
  have hg7 : OwnG H7 gv gs H1.n := OwnS.keep hg6 k7
  repeat' first
    | refine CO.cons rfl ?_
    | fail
  refine (count_spec (by omega) hg7.row hg7.same hq7.row hpo).mono ?_
  rw [show (okL gs (onlyR rs l)).length = 0 by rw [hc.non]; rfl]
  rintro w H8 ⟨rfl, k8⟩
  have l8 := k8.1
  have k68 := k7.trans k8
  repeat' first
    | refine CO.cons rfl ?_
    | refine CO.nil ?_
    | refine CV.seq ?_
    | refine CV.region callees ?_
    | refine CV.cond ?_
    | refine CV.block ?_
    | refine CV.skip ?_
    | refine CO.consG rfl ?_
    | (refine ⟨fun _ => ?_, fun _ => ?_⟩ <;> first | (exfalso; omega) | skip)
    | fail
  refine CV.loopc ?_
  refine WCv.rounds callees false (α := Nat) (fun i => [(3, .pointer (some ⟨b3, 0, none⟩)), (6, q), (9, VI i)]) (fun i Hz => i ≤ l.length ∧ Keep Hx Hz) (fun i => l.length - i) (0) (by repeat' first | exact trivial | refine ⟨rfl, ?_⟩ | refine ⟨slot_int (by (try simp only [Int.toNat_natCast]); omega), ?_⟩) ?_ ?_
  · exact ⟨by omega, k68⟩
  rintro i Hy ⟨hi, ky⟩ hBy
  have ly := ky.1
  have hqy : Ints Hy q l := Row.keep hqi ky
  have hPy := (ky.2 b3 (by omega)).trans hP6
  by_cases hi2 : i < l.length
  rotate_left
  · repeat' first
      | refine CO.cons rfl ?_
      | refine CO.nil ?_
      | refine CV.seq ?_
      | refine CV.region callees ?_
      | refine CV.cond ?_
      | refine CV.exit ?_
      | refine ⟨_, ints_len (by assumption), ?_⟩
      | (refine ⟨fun _ => ?_, fun _ => ?_⟩ <;> first | (exfalso; omega) | skip)
      | fail
    refine (awakeC_spec (by omega)).mono ?_
    rintro r HZ ⟨rfl, kz⟩
    repeat' first
      | refine CO.cons rfl ?_
      | refine CO.nil ?_
      | refine CV.ret ?_
      | fail
    exact ⟨rfl, rfl⟩
  have hit : (i : Int).toNat = i := by omega
  have hit1 : ((i : Int) + 1).toNat = i + 1 := by omega
  repeat' first
    | refine CO.cons rfl ?_
    | refine CO.nil ?_
    | refine CV.seq ?_
    | refine CV.region callees ?_
    | refine CV.cond ?_
    | refine CV.block ?_
    | refine CV.skip ?_
    | refine ⟨_, ints_len (by assumption), ?_⟩
    | (refine ⟨fun _ => ?_, fun _ => ?_⟩ <;> first | (exfalso; omega) | skip)
    | fail
  refine CV.mX callees (by decide +kernel) [(0, []), (1, []), (2, []), (4, []), (5, []), (6, []), (7, []), (3, [6]), (8, []), (9, [])] (by kernel_rfl) ?_
  repeat' first
    | refine CR.cons ?_
    | fail
  refine ints_slice hqy (by omega) (by omega) ?_
  rw [hit]
  intro r1 hr1
  repeat' first
    | refine CR.cons ?_
    | refine ⟨(⟨by omega, by omega⟩ : inI64 _), ?_⟩
    | fail
  refine slice_lo hqy (by omega) (by omega) ?_
  rw [hit1]
  intro r2 hr2
  have htl : (l.take i).length ≤ 12 := by rw [List.length_take]; omega
  have hdl : (l.drop (i + 1)).length ≤ 12 := by rw [List.length_drop]; omega
  repeat' first
    | refine CR.cons ?_
    | fail
  refine (ints_spec (by omega) hr1 (by omega)).mono ?_
  rintro w H9 ⟨hw, k9⟩
  have l9 := k9.1
  repeat' first
    | refine CR.cons ?_
    | refine ⟨(⟨by omega, by omega⟩ : inI64 _), ?_⟩
    | (refine ⟨(rfl : _ = Value.int _ _), ?_⟩)
    | (refine ⟨same_int, ?_⟩)
    | fail
  refine append_all_ask un22 one3 (by decide) hw (Row.keep hr2 k9) (by omega) (by omega) (by rw [List.length_map, List.length_map]; omega) ?_
  intro q9 HA hqA kbA
  rw [← List.map_append] at hqA
  have kA : Keep Hy HA := kbA.keep k9 (fun c hc => (hw.lt hc).1)
  have lA := kA.1
  have hmin := hc.min i hi2
  obtain ⟨rest, hrest⟩ : ∃ rest, l.take i ++ l.drop (i + 1) = rest := ⟨_, rfl⟩
  have hrl : rest.length ≤ 12 := by
    rw [← hrest, List.length_append, List.length_take, List.length_drop]
    omega
  have hri : ∀ x ∈ rest, 0 ≤ x ∧ x < rs.length := fun x hx => by
    rw [← hrest] at hx
    rcases List.mem_append.1 hx with h | h
    · exact hli x (List.mem_of_mem_take h)
    · exact hli x (List.mem_of_mem_drop h)
  rw [hrest] at hqA hmin
  have hgA : OwnG HA gv gs H1.n := OwnS.keep hg6 (ky.trans kA)
  have hrA : OwnR HA rv rs H1.n := OwnS.keep hr6 (ky.trans kA)
  have hPA := (kA.2 b3 (by omega)).trans hPy
  have hlen : 0 < (okL gs (onlyR rs rest)).length := List.length_pos_iff.2 hmin
  have hpr := only_pa hp hrl hri
  repeat' first
    | refine CO.cons rfl ?_
    | refine CV.seq ?_
    | refine CV.region callees ?_
    | refine CR.cons ?_
    | refine CR.nil ?_
    | (refine ⟨_, ld25 hPA, ?_⟩)
    | fail
  refine (only_spec (by omega) hgA hrA hqA.row (by omega) hri).mono ?_
  rintro w2 HB ⟨⟨qB, rfl, hqB⟩, kB⟩
  have lB := kB.1
  have hgB : OwnG HB gv gs H1.n := OwnS.keep hgA kB
  repeat' first
    | refine CO.cons rfl ?_
    | fail
  refine (count_spec (by omega) hgB.row hgB.same hqB.row hpr).mono ?_
  rintro w3 HC ⟨rfl, kC⟩
  have lC := kC.1
  repeat' first
    | refine CO.cons rfl ?_
    | refine CO.nil ?_
    | refine CV.seq ?_
    | refine CV.region callees ?_
    | refine CV.cond ?_
    | refine CV.skip ?_
    | refine CO.consG rfl ?_
    | refine ⟨(⟨by omega, by omega⟩ : inI64 _), ?_⟩
    | (refine ⟨fun _ => ?_, fun _ => ?_⟩ <;> first | (exfalso; omega) | skip)
    | fail
  refine ⟨(i + 1), (by repeat' first | exact trivial | refine ⟨rfl, ?_⟩ | refine ⟨slot_int (by (try simp only [Int.toNat_natCast]); omega), ?_⟩), (by (try dsimp only); omega), ?_⟩
  exact ⟨by omega, ky.trans (kA.trans (kB.trans kC))⟩
end Go.Proofs.Ytlamceokhbigaaa

