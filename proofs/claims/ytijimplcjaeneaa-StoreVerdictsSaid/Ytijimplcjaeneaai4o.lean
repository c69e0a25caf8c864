
/- StoreVerdicts. -/
import Derived.Test.Ytijimplcjaeneaai3o
set_option linter.unusedVariables false
set_option linter.unusedSimpArgs false
namespace Go.Proofs.Ytijimplcjaeneaa
open Go.AI
theorem lk_f1 {H : Heap} {v : Value} {ls : List Lk} (hr : RowS 4 H v (ls.map Lkl)) {j : Nat} (hj : j < ls.length) : afieldAddr Try.prog 28 (elemS v 4 j) 1 = some (fieldOf (elemS v 4 j) 1) ∧ aload Try.prog 3 H (fieldOf (elemS v 4 j) 1) = some (VI ls[j]!.t) :=
  ⟨hr.faddr foL1 (by decide) (by rw [List.length_map]; exact hj), hr.fload ag3 (lk_at hj) rfl⟩
set_option maxHeartbeats 16000000 in
set_option maxRecDepth 100000 in
theorem verdicts_spec {v : Value} {H : Heap} {nums : List Int} (hv : Ints H v nums) (hx : nums.length ≤ 9223372036854775807) :
    CallB Try.prog H.n 9 [v] H (fun r _ => r = .bool true) := by
  have hn : H.n ≤ H.n := Nat.le_refl _
  refine CV.enter callees false rfl Try.func9 rfl (by kernel_rfl) (Nat.le_of_ble_eq_true rfl) hn ?_
  repeat' first
    | refine CO.cons rfl ?_
    | refine CO.nil ?_
    | refine CV.seq ?_
    | refine CV.region callees ?_
    | fail
  refine (boxOf_spec hn hv hx).mono ?_
  rintro r H1 ⟨⟨b, rfl, hb, hbox⟩, k1⟩
  have l1 := k1.1
  have hbn := hbox.1
  repeat' first
    | refine CO.cons rfl ?_
    | refine CO.nil ?_
    | refine CV.seq ?_
    | refine CV.region callees ?_
    | fail
  refine (chainOf_spec (most := 6) (st := 5) (wd := 4) hb l1 hbox (by omega) (by omega) (by omega) (by omega)).mono ?_
  rintro r H2 ⟨⟨mk, lo, hh, sv, ls, rfl, hs, hcm⟩, hb2, x2⟩
  have l2 := x2.1
  have hc := hcm.ok (by omega)
  have hk := chOk_of hc
  have hls7 := hk.ok.n
  repeat' first
    | refine CO.cons rfl ?_
    | (refine ⟨_, _, alCh, ?_⟩)
    | fail
  generalize hs3 : Heap.new H2 _ = H3
  have hg3 := new_get hs3
  have k3 := new_keep hs3
  have n3 := new_n hs3
  obtain ⟨b3, hbn3⟩ : ∃ b, Heap.n H2 = b := ⟨_, rfl⟩
  rw [hbn3] at hg3 n3 ⊢
  repeat' first
    | fail
  refine ⟨_, _, stCh hg3 (OwnS.oneC hs), by omega, ?_⟩
  generalize hs4 : Heap.set H3 b3 _ = H4
  have hg4 : H4.get b3 = some (.cells (Chl mk lo hh sv) 26 1) := set_get hs4
  have n4 := set_n hs4
  have o4 := set_old hs4
  have k24 : Keep H2 H4 := keep_put k3 (by omega) o4 n4
  have hb4 := hb2.keep k24
  have l4 := k24.1
  repeat' first
    | refine CO.cons rfl ?_
    | refine CO.nil ?_
    | refine CV.seq ?_
    | refine CV.region callees ?_
    | fail
  refine (up_spec hb (by omega) hb4 (by omega)).mono ?_
  rintro r H5 ⟨⟨ow, rfl, ow1, ow2⟩, hb5, x5⟩
  have l5 := x5.1
  repeat' first
    | refine CO.cons rfl ?_
    | fail
  refine (up_spec hb (by omega) hb5 (by omega)).mono ?_
  rintro r H6 ⟨⟨day, rfl, day1, day2⟩, hb6, x6⟩
  have l6 := x6.1
  have hb4n := hb4.1
  have hs6 : RowS 4 H6 sv (ls.map Lkl) := (OwnS.boxed (hs.keep k24) (x5.trans x6) hb4).row
  have hg6 := ((x5.trans x6).2 b3 (by omega) (by omega)).trans hg4
  have hd : inB day 0 100000 = true := by simp [inB]; omega
  have hoo : inB ow 0 19 = true := by simp [inB]; omega
  have he0 : hoE mk lo hh ls day = 0 := by unfold hoE; rw [if_pos hc, hd]; rfl
  have hx0 : hoX mk lo hh ls day = hoL mk lo hh ls day := by unfold hoX; rw [if_pos hc, hd]; rfl
  have he1 : owE mk lo hh ls ow day = 0 := by unfold owE; rw [if_pos he0, hoo]; rfl
  have hov : owV mk lo hh ls ow day = if ow ∈ hoL mk lo hh ls day then (if (hoL mk lo hh ls day).length = 1 then 1 else 3) else 2 := by unfold owV; rw [if_pos he1, hx0]
  have hlE : hoE mk lo hh ls 100000 = 0 := by unfold hoE; rw [if_pos hc]; rfl
  have hlX : hoX mk lo hh ls 100000 = hoL mk lo hh ls 100000 := by unfold hoX; rw [if_pos hc]; rfl
  repeat' first
    | refine CO.cons rfl ?_
    | refine CO.nil ?_
    | refine CV.seq ?_
    | refine CV.region callees ?_
    | (refine ⟨_, ldCh hg6, ?_⟩)
    | fail
  refine (owned_spec (by omega) hs6).mono ?_
  rw [he1]
  rintro r H7 ⟨rfl, k7⟩
  have l7 := k7.1
  have hs7 := hs6.keep k7
  have hg7 := (k7.2 b3 (by omega)).trans hg6
  repeat' first
    | refine CO.cons rfl ?_
    | refine CO.nil ?_
    | refine CV.seq ?_
    | refine CV.region callees ?_
    | (refine ⟨_, ldCh hg7, ?_⟩)
    | fail
  refine (holders_spec (by omega) hs7).mono ?_
  rw [he0, hx0]
  rintro r H8 ⟨⟨hq, rfl, hh8⟩, k8⟩
  have l8 := k8.1
  have hs8 := hs7.keep k8
  have hg8 := (k8.2 b3 (by omega)).trans hg7
  repeat' first
    | refine CO.cons rfl ?_
    | refine CO.nil ?_
    | refine CV.seq ?_
    | refine CV.region callees ?_
    | (refine ⟨_, ldCh hg8, ?_⟩)
    | fail
  refine (holders_spec (by omega) hs8).mono ?_
  rw [hlE, hlX]
  rintro r H9 ⟨⟨lq, rfl, hlq9⟩, k9⟩
  have l9 := k9.1
  have hs9 := hs8.keep k9
  have hg9 := (k9.2 b3 (by omega)).trans hg8
  have hh9 : Ints H9 hq (hoL mk lo hh ls day) := (hh8.keep k9).row
  repeat' first
    | refine CO.cons rfl ?_
    | refine CO.nil ?_
    | refine CV.seq ?_
    | refine CV.region callees ?_
    | (refine ⟨_, ldCh hg9, ?_⟩)
    | fail
  refine (ordersP_spec (by omega) hs9).mono ?_
  rw [if_pos hc, hc]
  rintro r HA ⟨⟨oq, ws, rfl, hoq⟩, kA⟩
  have lA := kA.1
  have hsA := hs9.keep kA
  have hgA := (kA.2 b3 (by omega)).trans hg9
  have hhA : Ints HA hq (hoL mk lo hh ls day) := hh9.keep kA
  have hlqA : Ints HA lq (hoL mk lo hh ls 100000) := (hlq9.keep kA).row
  have hLn := hoL_len (mk := mk) (lo := lo) (hh := hh) (ls := ls) (d := day)
  have hLl := hoL_len (mk := mk) (lo := lo) (hh := hh) (ls := ls) (d := 100000)
  have hne : (hoL mk lo hh ls day).length ≠ 0 := fun h => hoL_some (d := day) hc (List.length_eq_zero_iff.1 h)
  have hL1 := last_len hk
  have hLh := fun (k : Nat) (h : k < 20) => last_has hk (k := k) h
  have hSm : ∀ o ∈ ordersL mk lo ls, o.length = ls.length ∧ ∀ k ∈ o, 0 ≤ k ∧ k < ls.length := fun o ho => by
    obtain ⟨h1, h2, _⟩ := orders_mem.1 ho
    exact ⟨h1, h2.mem⟩
  have hSl := orders_len (mk := mk) (lo := lo) hk.ok.n
  rw [hov]
  clear hov he0 hx0 he1 hlE hlX hlq9 hh8 hh9 hs6 hs7 hs8 hs9 hg6 hg7 hg8 hg9 hb6 hb5 hb4 hs hbox hb2 hg3 hg4
  generalize hoL mk lo hh ls day = hol at *
  generalize hoL mk lo hh ls 100000 = lal at *
  generalize hSS : ordersL mk lo ls = S at *
  obtain ⟨w, hw⟩ : ∃ w : Int, (if ow ∈ hol then (if hol.length = 1 then 1 else 3) else 2) = w := ⟨_, rfl⟩
  rw [hw]
  have hw1 : w = 1 ↔ hol = [ow] := by
    rw [← one_list, ← hw]
    by_cases h : ow ∈ hol
    · by_cases h' : hol.length = 1
      · rw [if_pos h, if_pos h']; exact ⟨fun _ => ⟨h, h'⟩, fun _ => rfl⟩
      · rw [if_pos h, if_neg h']; exact ⟨fun e => by omega, fun e => absurd e.2 h'⟩
    · rw [if_neg h]; exact ⟨fun e => by omega, fun e => absurd e.1 h⟩
  have hw2 : w = 2 ↔ ow ∉ hol := by
    rw [← hw]
    by_cases h : ow ∈ hol
    · rw [if_pos h]; exact ⟨fun e => by split at e <;> omega, fun e => absurd h e⟩
    · rw [if_neg h]; exact ⟨fun _ => h, fun _ => rfl⟩
  clear hw
  have hwe : decide (hol = [ow]) = decide (w = 1) := by simp only [hw1]
  have hwh1 : w = 2 → decide (ow ∈ hol) = false := fun h => decide_eq_false (hw2.1 h)
  have hwh2 : ¬w = 2 → decide (ow ∈ hol) = true := fun h => decide_eq_true (Classical.byContradiction fun h' => h (hw2.2 h'))
  obtain ⟨nA, hnA⟩ : ∃ n, HA.n = n := ⟨_, rfl⟩
  repeat' first
    | refine CO.cons rfl ?_
    | refine CO.nil ?_
    | fail
  refine CV.seq ?_
  refine CV.midK (α := Unit) (fun _u => [(4, .pointer (some ⟨b3, 0, none⟩)), (11, lq), (13, oq)]) (fun _u Hz => Keep HA Hz) ?_ ?_
  · repeat' first
      | refine CO.cons rfl ?_
      | refine CV.seq ?_
      | refine CV.region callees ?_
      | refine CO.consG rfl ?_
      | refine ⟨_, ints_len (by assumption), ?_⟩
      | (refine ⟨_, _, build_one un22 one3 rfl, ?_⟩)
      | (refine ⟨fun _ => ?_, fun _ => ?_⟩ <;> first | (exfalso; omega) | skip)
      | fail
    all_goals
      generalize hsB : Heap.new HA _ = HB
      have hbB : Row HB (.slice (some ⟨HA.n, 0, none⟩) 1 0) [VI ow] := by rw [← hsB]; exact new_row rfl
      have kB := new_keep hsB
      have lB := kB.1
      refine (eqInts_spec (by omega) (hhA.keep kB) (show Ints HB _ [ow] from hbB) (by omega)).mono ?_
      rw [hwe]
      rintro r HC ⟨rfl, kC⟩
      have lC := kC.1
      have hhC : Ints HC hq hol := (hhA.keep kB).keep kC
      first | rw [decide_eq_true (by assumption)] | rw [decide_eq_false (by assumption)]
      repeat' first
        | refine CO.cons rfl ?_
        | refine CO.consG rfl ?_
        | (refine ⟨_, fun tm ha => step1_boolNeq un4 rfl (ev_tmp ha rfl) (ev_tmp ha rfl), ?_⟩)
        | (refine ⟨fun _ => ?_, fun _ => ?_⟩ <;> first | (exfalso; omega) | skip)
        | fail
      all_goals
        refine (has_spec (by omega) hhC (by omega)).mono ?_
        first | rw [hwh1 (by omega)] | rw [hwh2 (by omega)]
        rintro r HD ⟨rfl, rfl⟩
        repeat' first
          | refine CO.cons rfl ?_
          | refine CO.nil ?_
          | refine CV.cond ?_
          | refine CV.skip ?_
          | refine CO.consG rfl ?_
          | (refine ⟨_, fun tm ha => step1_boolNeq un4 rfl (ev_tmp ha rfl) (ev_tmp ha rfl), ?_⟩)
          | fail
        refine ⟨(()), (by repeat' first | exact trivial | refine ⟨rfl, ?_⟩), ?_⟩
        exact kB.trans kC
  rintro _ Hx kx hBx
  have lx := kx.1
  repeat' first
    | refine CO.cons rfl ?_
    | refine CO.nil ?_
    | refine CV.seq ?_
    | refine CV.region callees ?_
    | refine CV.block ?_
    | fail
  clear hwh1 hwh2 hwe hw1 hw2 hhA hne hLn k1 x2 k24 x5 x6 k7 k8 k9 kA
  have hS7 : S.length < 1000000 := by omega
  refine CV.loopc ?_
  refine WCv.rounds callees false (α := Nat × Nat) (fun (k, n) => [(4, .pointer (some ⟨b3, 0, none⟩)), (11, lq), (13, oq), (15, VI n), (16, VI k)]) (fun (k, n) Hz => k ≤ 20 ∧ n = cntB mk ls S k ∧ Keep HA Hz) (fun (k, n) => 20 - k) (0, 0) (by repeat' first | exact trivial | refine ⟨rfl, ?_⟩ | refine ⟨slot_int (by (try simp only [Int.toNat_natCast]); omega), ?_⟩) ?_ ?_
  · exact ⟨by omega, rfl, kx⟩
  clear kx lx
  rintro ⟨k, n⟩ Hy ⟨hk20, hnk, ky⟩ hBy
  have ly := ky.1
  have hcl : cntB mk ls S k ≤ k := cntB_le
  have hgy := (ky.2 b3 (by omega)).trans hgA
  have hsy := hsA.keep ky
  by_cases hkk : k < 20
  · have hfin := hLh k hkk
    repeat' first
      | refine CO.cons rfl ?_
      | refine CO.nil ?_
      | refine CV.seq ?_
      | refine CV.region callees ?_
      | (refine ⟨fun _ => ?_, fun _ => ?_⟩ <;> first | (exfalso; omega) | skip)
      | fail
    refine CV.cond ?_
    refine CV.skip ?_
    refine CV.seq ?_
    refine CV.block ?_
    refine CV.seq ?_
    refine CV.midK (α := Bool) (fun x => [(4, .pointer (some ⟨b3, 0, none⟩)), (11, lq), (13, oq), (15, VI n), (16, VI k), (17, .bool x)]) (fun x Hz => x = (decide (ls.length = 0) && decide ((k : Int) = mk)) ∧ Keep HA Hz) ?_ ?_
    · by_cases h0 : ls.length = 0
      · by_cases hkm : (k : Int) = mk
        · repeat' first
            | refine CO.cons rfl ?_
            | refine CO.nil ?_
            | refine CV.region callees ?_
            | refine CO.consG rfl ?_
            | (refine ⟨_, fS foC2 (by decide), ?_⟩)
            | (refine ⟨_, cell_load agLs hgy rfl, ?_⟩)
            | (refine ⟨_, ls_len hsy, ?_⟩)
            | (refine ⟨_, fS foC0 (by decide), ?_⟩)
            | (refine ⟨fun _ => ?_, fun _ => ?_⟩ <;> first | (exfalso; omega) | skip)
            | fail
          refine ⟨(true), (by repeat' first | exact trivial | refine ⟨rfl, ?_⟩), ?_⟩
          exact ⟨by rw [decide_eq_true h0, decide_eq_true hkm]; rfl, ky⟩
        · repeat' first
            | refine CO.cons rfl ?_
            | refine CO.nil ?_
            | refine CV.region callees ?_
            | refine CO.consG rfl ?_
            | (refine ⟨_, fS foC2 (by decide), ?_⟩)
            | (refine ⟨_, cell_load agLs hgy rfl, ?_⟩)
            | (refine ⟨_, ls_len hsy, ?_⟩)
            | (refine ⟨_, fS foC0 (by decide), ?_⟩)
            | (refine ⟨fun _ => ?_, fun _ => ?_⟩ <;> first | (exfalso; omega) | skip)
            | fail
          refine ⟨(false), (by repeat' first | exact trivial | refine ⟨rfl, ?_⟩), ?_⟩
          exact ⟨by rw [decide_eq_true h0, decide_eq_false hkm]; rfl, ky⟩
      · repeat' first
          | refine CO.cons rfl ?_
          | refine CO.nil ?_
          | refine CV.region callees ?_
          | refine CO.consG rfl ?_
          | (refine ⟨_, fS foC2 (by decide), ?_⟩)
          | (refine ⟨_, cell_load agLs hgy rfl, ?_⟩)
          | (refine ⟨_, ls_len hsy, ?_⟩)
          | (refine ⟨fun _ => ?_, fun _ => ?_⟩ <;> first | (exfalso; omega) | skip)
          | fail
        refine ⟨(false), (by repeat' first | exact trivial | refine ⟨rfl, ?_⟩), ?_⟩
        exact ⟨by rw [decide_eq_false h0]; rfl, ky⟩
    clear ky ly hgy hsy
    rintro x Hm ⟨hx0, km⟩ hBm
    repeat' first
      | refine CO.cons rfl ?_
      | refine CO.nil ?_
      | refine CV.seq ?_
      | refine CV.region callees ?_
      | refine CV.block ?_
      | fail
    refine CV.loopc ?_
    refine WCv.rounds callees false (α := Nat × Bool) (fun (j, x) => [(4, .pointer (some ⟨b3, 0, none⟩)), (11, lq), (13, oq), (15, VI n), (16, VI k), (17, .bool x), (18, VI j)]) (fun (j, x) Hz => j ≤ S.length ∧ x = (if ls.length = 0 then decide ((k : Int) = mk) else (S.take j).any fun o => decide (ls[(o[o.length - 1]!).toNat]!.t = k)) ∧ Keep HA Hz) (fun (j, x) => S.length - j) (0, x) (by repeat' first | exact trivial | refine ⟨rfl, ?_⟩ | refine ⟨slot_int (by (try simp only [Int.toNat_natCast]); omega), ?_⟩) ?_ ?_
    · refine ⟨by omega, ?_, km⟩
      rw [hx0]
      split
      · rename_i h0; rw [decide_eq_true h0, Bool.true_and]
      · rename_i h0; rw [decide_eq_false h0]; rfl
    clear km hx0 x
    rintro ⟨j, x⟩ Hz ⟨hj, hxj, kz⟩ hBz
    have lz := kz.1
    have hgz := (kz.2 b3 (by omega)).trans hgA
    have hsz := hsA.keep kz
    have hoz := (hoq.keep kz).gri
    by_cases hgo : j < S.length ∧ 0 < ls.length
    · obtain ⟨hj2, hl0⟩ := hgo
      have hSj := hSm S[j]! (by rw [getElem!_pos S j hj2]; exact List.getElem_mem _)
      obtain ⟨o, ho⟩ : ∃ o, S[j]! = o := ⟨_, rfl⟩
      have hoi := hoz.ints j hj2
      rw [ho] at hSj hoi
      obtain ⟨ho1, ho2⟩ := hSj
      have hadr := hoz.addr hj2
      have hld := hoz.load hj2
      have htk : S.take (j + 1) = S.take j ++ [o] := by rw [one_at hj2, ho]
      have hxn : (if ls.length = 0 then decide ((k : Int) = mk) else (S.take (j + 1)).any fun o => decide (ls[(o[o.length - 1]!).toNat]!.t = k)) = (x || decide (ls[(o[o.length - 1]!).toNat]!.t = k)) := by
        rw [hxj, if_neg (by omega), if_neg (by omega), htk, List.any_append]
        simp
      have hym := ho2 (o[o.length - 1]!) (by rw [getElem!_pos o _ (by omega)]; exact List.getElem_mem _)
      have hyi : o[((o.length : Int) - 1).toNat]! = o[o.length - 1]! := by congr 1; omega
      obtain ⟨y, hy⟩ : ∃ y, o[o.length - 1]! = y := ⟨_, rfl⟩
      rw [hy] at hxn hym hyi
      have hla : aindexAddr Try.prog 24 sv (.int .i64 y) = some (elemS sv 4 y.toNat) := ls_addr hsz hym.1 hym.2
      have hlf := lk_f1 hsz (j := y.toNat) (by omega)
      obtain ⟨t, ht⟩ : ∃ t, ls[y.toNat]!.t = t := ⟨_, rfl⟩
      rw [ht] at hxn hlf
      cases x with
      | true =>
        repeat' first
          | refine CO.cons rfl ?_
          | refine CO.nil ?_
          | refine CV.seq ?_
          | refine CV.region callees ?_
          | refine CV.cond ?_
          | refine CV.block ?_
          | refine CV.skip ?_
          | refine CV.draw callees (by decide +kernel) ?_
          | refine CH.cons rfl ?_
          | refine CH.nil ?_
          | refine CO.consG rfl ?_
          | refine CH.consG rfl ?_
          | refine ⟨_, ints_len (by assumption), ?_⟩
          | refine ⟨(⟨by omega, by omega⟩ : inI64 _), ?_⟩
          | (refine ⟨_, hoz.alen, ?_⟩)
          | (refine ⟨_, fS foC2 (by decide), ?_⟩)
          | (refine ⟨_, cell_load agLs hgz rfl, ?_⟩)
          | (refine ⟨_, ls_len hsz, ?_⟩)
          | (refine ⟨_, hadr, ?_⟩)
          | (refine ⟨_, hld, ?_⟩)
          | (refine ⟨fun _ => ?_, fun _ => ?_⟩ <;> first | (exfalso; omega) | skip)
          | fail
        refine ⟨(j + 1, true), (by repeat' first | exact trivial | refine ⟨rfl, ?_⟩ | refine ⟨slot_int (by (try simp only [Int.toNat_natCast]); omega), ?_⟩), (by (try dsimp only); omega), ?_⟩
        exact ⟨by omega, by rw [hxn]; rfl, kz⟩
      | false =>
        by_cases htk : t = (k : Int)
        · repeat' first
            | refine CO.cons rfl ?_
            | refine CO.nil ?_
            | refine CV.seq ?_
            | refine CV.region callees ?_
            | refine CV.cond ?_
            | refine CV.block ?_
            | refine CV.skip ?_
            | refine CV.draw callees (by decide +kernel) ?_
            | refine CH.cons rfl ?_
            | refine CH.nil ?_
            | refine CO.consG rfl ?_
            | refine CH.consG rfl ?_
            | refine ⟨_, ints_len (by assumption), ?_⟩
            | refine ⟨_, ints_addr (by assumption) (by omega) (by omega), ?_⟩
            | refine ⟨_, ints_load (by assumption) (by omega) (by omega), ?_⟩
            | refine ⟨(⟨by omega, by omega⟩ : inI64 _), ?_⟩
            | (refine ⟨_, hoz.alen, ?_⟩)
            | (refine ⟨_, fS foC2 (by decide), ?_⟩)
            | (refine ⟨_, cell_load agLs hgz rfl, ?_⟩)
            | (refine ⟨_, ls_len hsz, ?_⟩)
            | (refine ⟨_, hadr, ?_⟩)
            | (refine ⟨_, hld, ?_⟩)
            | (rw [hyi])
            | (refine ⟨_, hla, ?_⟩)
            | (refine ⟨_, hlf.1, ?_⟩)
            | (refine ⟨_, hlf.2, ?_⟩)
            | (refine ⟨fun _ => ?_, fun _ => ?_⟩ <;> first | (exfalso; omega) | skip)
            | fail
          refine ⟨(j + 1, true), (by repeat' first | exact trivial | refine ⟨rfl, ?_⟩ | refine ⟨slot_int (by (try simp only [Int.toNat_natCast]); omega), ?_⟩), (by (try dsimp only); omega), ?_⟩
          exact ⟨by omega, by rw [hxn, decide_eq_true htk]; rfl, kz⟩
        · repeat' first
            | refine CO.cons rfl ?_
            | refine CO.nil ?_
            | refine CV.seq ?_
            | refine CV.region callees ?_
            | refine CV.cond ?_
            | refine CV.block ?_
            | refine CV.skip ?_
            | refine CV.draw callees (by decide +kernel) ?_
            | refine CH.cons rfl ?_
            | refine CH.nil ?_
            | refine CO.consG rfl ?_
            | refine CH.consG rfl ?_
            | refine ⟨_, ints_len (by assumption), ?_⟩
            | refine ⟨_, ints_addr (by assumption) (by omega) (by omega), ?_⟩
            | refine ⟨_, ints_load (by assumption) (by omega) (by omega), ?_⟩
            | refine ⟨(⟨by omega, by omega⟩ : inI64 _), ?_⟩
            | (refine ⟨_, hoz.alen, ?_⟩)
            | (refine ⟨_, fS foC2 (by decide), ?_⟩)
            | (refine ⟨_, cell_load agLs hgz rfl, ?_⟩)
            | (refine ⟨_, ls_len hsz, ?_⟩)
            | (refine ⟨_, hadr, ?_⟩)
            | (refine ⟨_, hld, ?_⟩)
            | (rw [hyi])
            | (refine ⟨_, hla, ?_⟩)
            | (refine ⟨_, hlf.1, ?_⟩)
            | (refine ⟨_, hlf.2, ?_⟩)
            | (refine ⟨fun _ => ?_, fun _ => ?_⟩ <;> first | (exfalso; omega) | skip)
            | fail
          refine ⟨(j + 1, false), (by repeat' first | exact trivial | refine ⟨rfl, ?_⟩ | refine ⟨slot_int (by (try simp only [Int.toNat_natCast]); omega), ?_⟩), (by (try dsimp only); omega), ?_⟩
          exact ⟨by omega, by rw [hxn, decide_eq_false htk]; rfl, kz⟩
    have hxb : x = isB mk ls S k := by
      rw [hxj]
      unfold isB
      split
      · rfl
      · have : j = S.length := by omega
        rw [this, List.take_length]
    have hlqz : Ints Hz lq lal := Row.keep hlqA kz
    have hcs := cntB_succ (mk := mk) (ls := ls) (S := S) (n := k)
    rw [← hxb] at hcs hfin
    have hnlt : cntB mk ls S k ≤ k := cntB_le
    by_cases hj2 : j < S.length
    · have h0 : ls.length = 0 := by omega
      cases x with
      | true =>
        repeat' first
          | refine CO.cons rfl ?_
          | refine CO.nil ?_
          | refine CV.seq ?_
          | refine CV.region callees ?_
          | refine CV.cond ?_
          | refine CV.exit ?_
          | refine CO.consG rfl ?_
          | refine ⟨(⟨by omega, by omega⟩ : inI64 _), ?_⟩
          | (refine ⟨_, hoz.alen, ?_⟩)
          | (refine ⟨_, fS foC2 (by decide), ?_⟩)
          | (refine ⟨_, cell_load agLs hgz rfl, ?_⟩)
          | (refine ⟨_, ls_len hsz, ?_⟩)
          | (refine ⟨fun _ => ?_, fun _ => ?_⟩ <;> first | (exfalso; omega) | skip)
          | fail
        refine (has_spec (by omega) hlqz (by omega)).mono ?_
        rw [hfin]
        rintro r HD ⟨rfl, rfl⟩
        repeat' first
          | refine CO.cons rfl ?_
          | refine CO.nil ?_
          | refine CV.region callees ?_
          | refine CV.cond ?_
          | refine CV.skip ?_
          | refine ⟨(⟨by omega, by omega⟩ : inI64 _), ?_⟩
          | (refine ⟨_, fun tm ha => step1_boolNeq un4 rfl (ev_tmp ha rfl) (ev_tmp ha rfl), ?_⟩)
          | fail
        refine ⟨(k + 1, n + 1), (by repeat' first | exact trivial | refine ⟨rfl, ?_⟩ | refine ⟨slot_int (by (try simp only [Int.toNat_natCast]); omega), ?_⟩), (by (try dsimp only); omega), ?_⟩
        exact ⟨by omega, by rw [hcs, if_pos rfl, hnk], kz⟩
      | false =>
        repeat' first
          | refine CO.cons rfl ?_
          | refine CO.nil ?_
          | refine CV.seq ?_
          | refine CV.region callees ?_
          | refine CV.cond ?_
          | refine CV.skip ?_
          | refine CV.exit ?_
          | refine CO.consG rfl ?_
          | (refine ⟨_, hoz.alen, ?_⟩)
          | (refine ⟨_, fS foC2 (by decide), ?_⟩)
          | (refine ⟨_, cell_load agLs hgz rfl, ?_⟩)
          | (refine ⟨_, ls_len hsz, ?_⟩)
          | (refine ⟨fun _ => ?_, fun _ => ?_⟩ <;> first | (exfalso; omega) | skip)
          | fail
        refine (has_spec (by omega) hlqz (by omega)).mono ?_
        rw [hfin]
        rintro r HD ⟨rfl, rfl⟩
        repeat' first
          | refine CO.cons rfl ?_
          | refine CO.nil ?_
          | refine CV.region callees ?_
          | refine CV.cond ?_
          | refine CV.skip ?_
          | refine ⟨(⟨by omega, by omega⟩ : inI64 _), ?_⟩
          | (refine ⟨_, fun tm ha => step1_boolNeq un4 rfl (ev_tmp ha rfl) (ev_tmp ha rfl), ?_⟩)
          | fail
        refine ⟨(k + 1, n), (by repeat' first | exact trivial | refine ⟨rfl, ?_⟩ | refine ⟨slot_int (by (try simp only [Int.toNat_natCast]); omega), ?_⟩), (by (try dsimp only); omega), ?_⟩
        exact ⟨by omega, by rw [hcs, if_neg (by simp), hnk]; rfl, kz⟩
    · cases x with
      | true =>
        repeat' first
          | refine CO.cons rfl ?_
          | refine CO.nil ?_
          | refine CV.seq ?_
          | refine CV.region callees ?_
          | refine CV.cond ?_
          | refine CV.exit ?_
          | refine CO.consG rfl ?_
          | refine ⟨(⟨by omega, by omega⟩ : inI64 _), ?_⟩
          | (refine ⟨_, hoz.alen, ?_⟩)
          | (refine ⟨fun _ => ?_, fun _ => ?_⟩ <;> first | (exfalso; omega) | skip)
          | fail
        refine (has_spec (by omega) hlqz (by omega)).mono ?_
        rw [hfin]
        rintro r HD ⟨rfl, rfl⟩
        repeat' first
          | refine CO.cons rfl ?_
          | refine CO.nil ?_
          | refine CV.region callees ?_
          | refine CV.cond ?_
          | refine CV.skip ?_
          | refine ⟨(⟨by omega, by omega⟩ : inI64 _), ?_⟩
          | (refine ⟨_, fun tm ha => step1_boolNeq un4 rfl (ev_tmp ha rfl) (ev_tmp ha rfl), ?_⟩)
          | fail
        refine ⟨(k + 1, n + 1), (by repeat' first | exact trivial | refine ⟨rfl, ?_⟩ | refine ⟨slot_int (by (try simp only [Int.toNat_natCast]); omega), ?_⟩), (by (try dsimp only); omega), ?_⟩
        exact ⟨by omega, by rw [hcs, if_pos rfl, hnk], kz⟩
      | false =>
        repeat' first
          | refine CO.cons rfl ?_
          | refine CO.nil ?_
          | refine CV.seq ?_
          | refine CV.region callees ?_
          | refine CV.cond ?_
          | refine CV.skip ?_
          | refine CV.exit ?_
          | refine CO.consG rfl ?_
          | (refine ⟨_, hoz.alen, ?_⟩)
          | (refine ⟨fun _ => ?_, fun _ => ?_⟩ <;> first | (exfalso; omega) | skip)
          | fail
        refine (has_spec (by omega) hlqz (by omega)).mono ?_
        rw [hfin]
        rintro r HD ⟨rfl, rfl⟩
        repeat' first
          | refine CO.cons rfl ?_
          | refine CO.nil ?_
          | refine CV.region callees ?_
          | refine CV.cond ?_
          | refine CV.skip ?_
          | refine ⟨(⟨by omega, by omega⟩ : inI64 _), ?_⟩
          | (refine ⟨_, fun tm ha => step1_boolNeq un4 rfl (ev_tmp ha rfl) (ev_tmp ha rfl), ?_⟩)
          | fail
        refine ⟨(k + 1, n), (by repeat' first | exact trivial | refine ⟨rfl, ?_⟩ | refine ⟨slot_int (by (try simp only [Int.toNat_natCast]); omega), ?_⟩), (by (try dsimp only); omega), ?_⟩
        exact ⟨by omega, by rw [hcs, if_neg (by simp), hnk]; rfl, kz⟩
  obtain rfl : k = 20 := by omega
  have hlqy : Ints Hy lq lal := Row.keep hlqA ky
  repeat' first
    | refine CO.cons rfl ?_
    | refine CO.nil ?_
    | refine CV.seq ?_
    | refine CV.region callees ?_
    | refine CV.cond ?_
    | refine CV.exit ?_
    | refine CO.consG rfl ?_
    | refine ⟨_, ints_len (by assumption), ?_⟩
    | (refine ⟨fun _ => ?_, fun _ => ?_⟩ <;> first | (exfalso; omega) | skip)
    | fail
  refine (awake_spec (by omega)).mono ?_
  rintro r I5 ⟨rfl, j5⟩
  repeat' first
    | refine CO.cons rfl ?_
    | refine CO.nil ?_
    | refine CV.ret ?_
    | fail
  exact ⟨rfl, rfl⟩
end Go.Proofs.Ytijimplcjaeneaa
