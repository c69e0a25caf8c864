
/- StoreChains. -/
import Derived.Test.Ytijimplcjaeneaam3o
import Derived.Test.Ytijimplcjaeneaah2o
import Derived.Test.Ytijimplcjaeneaai7o
import Derived.Test.Ytijimplcjaeneaai9o
import Derived.Test.Ytijimplcjaeneaaj1o
import Derived.Test.YtijimplcjaeneaaO5
import Derived.Test.Ytijimplcjaeneaacbo
set_option linter.unusedVariables false
set_option linter.unusedSimpArgs false
namespace Go.Proofs.Ytijimplcjaeneaa
open Go.AI
theorem unCs : Try.prog.underlying 37 = some (.slice 26) := by kernel_rfl
theorem boxLk {H : Heap} {p : Lk} {e : TypeId} : anew H (Value.cells (Lkv p)).toList e 1 = H.new (.cells (Lkl p) e 1) := rfl
theorem same_lk {p : Lk} : sameFix (Lkv p) (Lkv p) = true := by simp [sameFix, sameFixL, sameFix1]
theorem rowS_sl {s : Nat} {H : Heap} {v : Value} {rs : List (List Value)} (h : RowS s H v rs) : ∃ x n c, v = .slice x n c := by
  rcases h.2 with ⟨rfl, _⟩ | ⟨⟨x, n, c, rfl⟩, _⟩ | ⟨b, o, c, cs, e, k, rfl, _⟩
  · exact ⟨_, _, _, rfl⟩
  · exact ⟨_, _, _, rfl⟩
  · exact ⟨_, _, _, rfl⟩
theorem bu2C {H : Heap} {m1 a1 b1 m2 a2 b2 : Int} {x1 x2 : Option Addr} {n1 c1 n2 c2 : Nat} : abuildSlice Try.prog H 37 2 [(0, Chv m1 a1 b1 (.slice x1 n1 c1)), (1, Chv m2 a2 b2 (.slice x2 n2 c2))] =
    some (.slice (some ⟨H.n, 0, none⟩) 2 0, H.new (.cells [VI m1, VI a1, VI b1, .slice x1 n1 c1, VI m2, VI a2, VI b2, .slice x2 n2 c2] 26 2), H.n) := by kernel_rfl
theorem flat_step {M : List (List Value)} {s j q : Nat} {r : List Value} {w : Value} (hr : ∀ r ∈ M, r.length = s) (hj : M[j]? = some r) (hq : q < s) :
    M.flatten.set (j * s + q) w = (M.set j (r.set q w)).flatten ∧ (∀ x ∈ M.set j (r.set q w), x.length = s) ∧ (M.set j (r.set q w))[j]? = some (r.set q w) := by
  refine ⟨flat_set hr hj hq, fun x hx => ?_, ?_⟩
  · rcases List.mem_or_eq_of_mem_set hx with h | h
    · exact hr x h
    · rw [h, List.length_set]; exact hr r (List.mem_of_getElem? hj)
  · rw [List.getElem?_set_self (List.getElem?_eq_some_iff.1 hj).1]
theorem lk_set {K : Heap → Prop} {B B0 i : Nat} {H : Heap} {v : Value} {ls : List Lk} {p : Lk} (h : OwnLk H v ls B0) (hB : B ≤ B0) (hi : i < ls.length)
    (hk : ∀ H', OwnLk H' v (ls.set i p) B0 → KeepBut v H H' → K H') : ∃ H' b, astore Try.prog 28 H (Lkv p) (elemS v 4 i) = some (H', b) ∧ B ≤ b ∧ K H' := by
  have hrows := h.1
  have hj := lk_at hi
  rcases h.2 with ⟨_, h0⟩ | ⟨b0, rfl, h2, h3, h4⟩
  · rw [List.map_eq_nil_iff] at h0; subst h0; cases hi
  · have hfl := flat_len hrows
    rw [List.length_map] at hfl
    have he : elemS (.slice (some ⟨b0, 0, none⟩) (ls.map Lkl).length 0) 4 i = .pointer (some ⟨b0, i * 4, none⟩) := by simp [elemS]
    have hset : splice (ls.map Lkl).flatten (i * 4) [VI p.f, VI p.t, VI p.lo, VI p.hi] = ((ls.set i p).map Lkl).flatten := by
      simp only [splice]
      obtain ⟨s0, r0, j0⟩ := flat_step (q := 0) (w := VI p.f) hrows hj (by decide)
      obtain ⟨s1, r1, j1⟩ := flat_step (q := 1) (w := VI p.t) r0 j0 (by decide)
      obtain ⟨s2, r2, j2⟩ := flat_step (q := 2) (w := VI p.lo) r1 j1 (by decide)
      obtain ⟨s3, r3, j3⟩ := flat_step (q := 3) (w := VI p.hi) r2 j2 (by decide)
      rw [Nat.add_zero] at s0
      rw [show i * 4 + 1 + 1 = i * 4 + 2 from rfl, show i * 4 + 2 + 1 = i * 4 + 3 from rfl, s0, s1, s2, s3, List.set_set, List.set_set, List.set_set, List.map_set]
      rfl
    refine ⟨H.set b0 (.cells ((ls.set i p).map Lkl).flatten 28 2), b0, ?_, by omega, hk _ ⟨fun r hr => ?_, .inr ⟨b0, by simp, h2, h3, Heap.get_set_eq _ _ _⟩⟩ ⟨Nat.le_refl _, fun c hc hne => Heap.get_set_ne _ _ fun h => hne (by rw [h]; rfl)⟩⟩
    · rw [he]
      have h1 : (Value.agg [VI p.f, VI p.t, VI p.lo, VI p.hi].toArray).cells = [VI p.f, VI p.t, VI p.lo, VI p.hi].toArray := rfl
      show astore Try.prog 28 H (Value.agg [VI p.f, VI p.t, VI p.lo, VI p.hi].toArray) _ = _
      simp only [astore, h4, h1, szLk, spliceQ_eq]
      rw [if_pos ⟨by simp, by rw [hfl]; show i * 4 + 4 ≤ ls.length * 4; omega, rfl, by rfl⟩, hset]
    · obtain ⟨e, _, rfl⟩ := List.mem_map.1 hr
      rfl
set_option maxRecDepth 100000 in
theorem many_spec {B : Nat} {H : Heap} {mk lo hh : Int} {sv : Value} {ls : List Lk} (hB : B ≤ H.n) (hr : RowS 4 H sv (ls.map Lkl)) :
    CallB Try.prog B 15 [Chv mk lo hh sv] H (fun v H' => (v = .bool true ∨ v = .bool false ∧ ls.length ≤ 20) ∧ Keep H H') := by
  refine CV.enter callees false rfl Try.func15 rfl (by kernel_rfl) (Nat.le_of_ble_eq_true rfl) hB ?_
  repeat' first
    | refine CO.cons rfl ?_
    | refine CV.seq ?_
    | refine CV.region callees ?_
    | fail
  refine ⟨(by simp only [notTuple]), ?_⟩
  rw [boxCh hr.cells.1]
  generalize hs0 : Heap.new H _ = H0
  have hg0 := new_get hs0
  have k0 := new_keep hs0
  have n0 := new_n hs0
  obtain ⟨b0, hbn0⟩ : ∃ b, Heap.n H = b := ⟨_, rfl⟩
  rw [hbn0] at hg0 n0 ⊢
  have hr0 := hr.keep k0
  by_cases h : 20 < ls.length
  · repeat' first
      | refine CO.cons rfl ?_
      | refine CO.nil ?_
      | refine CV.seq ?_
      | refine CV.region callees ?_
      | refine CV.ret ?_
      | (refine ⟨_, fS foC2 (by decide), ?_⟩)
      | (refine ⟨_, cell_load agLs hg0 rfl, ?_⟩)
      | (refine ⟨_, ls_len hr0, ?_⟩)
      | (refine ⟨fun _ => ?_, fun _ => ?_⟩ <;> first | (exfalso; omega) | skip)
      | fail
    refine ⟨rfl, ?_, k0⟩
    exact .inl rfl
  · repeat' first
      | refine CO.cons rfl ?_
      | refine CO.nil ?_
      | refine CV.seq ?_
      | refine CV.region callees ?_
      | refine CV.ret ?_
      | (refine ⟨_, fS foC2 (by decide), ?_⟩)
      | (refine ⟨_, cell_load agLs hg0 rfl, ?_⟩)
      | (refine ⟨_, ls_len hr0, ?_⟩)
      | (refine ⟨fun _ => ?_, fun _ => ?_⟩ <;> first | (exfalso; omega) | skip)
      | fail
    refine ⟨rfl, ?_, k0⟩
    exact .inr ⟨rfl, by omega⟩
set_option maxHeartbeats 32000000 in
set_option maxRecDepth 100000 in
theorem chains_spec {sv0 v : Value} {H : Heap} {mk0 lo0 hh0 : Int} {ls0 : List Lk} {p : Lk} {nums : List Int} (hr : RowS 4 H sv0 (ls0.map Lkl)) (hl : ls0.length ≤ 9223372036854775807) (hv : Ints H v nums) (hx : nums.length ≤ 9223372036854775807) :
    CallB Try.prog H.n 3 [Chv mk0 lo0 hh0 sv0, Lkv p, v] H (fun r _ => r = .bool true) := by
  have hn : H.n ≤ H.n := Nat.le_refl _
  refine CV.enter callees false rfl Try.func3 rfl (by kernel_rfl) (Nat.le_of_ble_eq_true rfl) hn ?_
  repeat' first
    | refine CO.cons rfl ?_
    | refine CV.seq ?_
    | refine CV.region callees ?_
    | fail
  refine ⟨(by simp only [notTuple]), ?_⟩
  rw [boxCh hr.cells.1]
  generalize hs0 : Heap.new H _ = H0
  have hg0 := new_get hs0
  have k0 := new_keep hs0
  have n0 := new_n hs0
  obtain ⟨b0, hbn0⟩ : ∃ b, Heap.n H = b := ⟨_, rfl⟩
  rw [hbn0] at hg0 n0 ⊢
  repeat' first
    | refine CO.cons rfl ?_
    | fail
  refine ⟨(by simp only [notTuple]), ?_⟩
  rw [boxLk]
  generalize hs1 : Heap.new H0 _ = H1
  have hg1 := new_get hs1
  have k1 := new_keep hs1
  have n1 := new_n hs1
  obtain ⟨b1, hbn1⟩ : ∃ b, Heap.n H0 = b := ⟨_, rfl⟩
  rw [hbn1] at hg1 n1 ⊢
  have k01 := k0.trans k1
  have hr1 := hr.keep k01
  have hv1 : Ints H1 v nums := Row.keep hv k01
  have hc1 := (k1.2 b0 (by omega)).trans hg0
  repeat' first
    | refine CO.cons rfl ?_
    | refine CO.nil ?_
    | refine CV.seq ?_
    | refine CV.region callees ?_
    | (refine ⟨_, ldCh hc1, ?_⟩)
    | fail
  refine (many_spec (by omega) hr1).mono ?_
  rintro r H2 ⟨rfl | ⟨rfl, hl20⟩, k2⟩
  · have l2 := k2.1
    repeat' first
      | refine CO.cons rfl ?_
      | refine CO.nil ?_
      | refine CV.seq ?_
      | refine CV.region callees ?_
      | refine CV.cond ?_
      | fail
    refine (awake_spec (by omega)).mono ?_
    rintro r I5 ⟨rfl, j5⟩
    repeat' first
      | refine CO.cons rfl ?_
      | refine CO.nil ?_
      | refine CV.ret ?_
      | fail
    exact ⟨rfl, rfl⟩
  have l2 := k2.1
  have hv2 : Ints H2 v nums := Row.keep hv1 k2
  repeat' first
    | refine CO.cons rfl ?_
    | refine CO.nil ?_
    | refine CV.seq ?_
    | refine CV.region callees ?_
    | refine CV.cond ?_
    | refine CV.skip ?_
    | fail
  refine (boxOf_spec (by omega) hv2 hx).mono ?_
  rintro r H3 ⟨⟨b, rfl, hb, hbox⟩, k3⟩
  have l3 := k3.1
  have hbn := hbox.1
  repeat' first
    | refine CO.cons rfl ?_
    | refine CO.nil ?_
    | refine CV.seq ?_
    | refine CV.region callees ?_
    | fail
  refine (chainOf_spec (most := 7) (st := 6) (wd := 4) (by omega) (by omega) hbox (by omega) (by omega) (by omega) (by omega)).mono ?_
  rintro r H4 ⟨⟨mk, lo, hh, sv, ls, rfl, hs, hcm⟩, hb4, x4⟩
  have l4 := x4.1
  have hls7 := hcm.n
  repeat' first
    | refine CO.cons rfl ?_
    | (refine ⟨_, _, alCh, ?_⟩)
    | fail
  generalize hs5 : Heap.new H4 _ = H5
  have hg5 := new_get hs5
  have k5 := new_keep hs5
  have n5 := new_n hs5
  obtain ⟨b5, hbn5⟩ : ∃ b, Heap.n H4 = b := ⟨_, rfl⟩
  rw [hbn5] at hg5 n5 ⊢
  repeat' first
    | fail
  refine ⟨_, _, stCh hg5 (OwnS.oneC hs), by omega, ?_⟩
  generalize hs6 : Heap.set H5 b5 _ = H6
  have hg6 : H6.get b5 = some (.cells (Chl mk lo hh sv) 26 1) := set_get hs6
  have n6 := set_n hs6
  have o6 := set_old hs6
  have k46 : Keep H4 H6 := keep_put k5 (by omega) o6 n6
  have l6 := k46.1
  have hb6 := hb4.keep k46
  have hs6 : OwnLk H6 sv ls H3.n := OwnS.keep hs k46
  have hc3 := (k3.2 b0 (by omega)).trans ((k2.2 b0 (by omega)).trans hc1)
  have hp3 := (k3.2 b1 (by omega)).trans ((k2.2 b1 (by omega)).trans hg1)
  have hc6 := (k46.2 b0 (by omega)).trans ((x4.2 b0 (by omega) (by omega)).trans hc3)
  have hp6 := (k46.2 b1 (by omega)).trans ((x4.2 b1 (by omega) (by omega)).trans hp3)
  have hr6 : RowS 4 H6 sv0 (ls0.map Lkl) := by obtain ⟨_, w, hw⟩ := hbox; exact (((hr1.keep k2).keep k3).keepX x4 hw).keep k46
  have hb6n := hb6.1
  repeat' first
    | refine CO.nil ?_
    | fail
  refine CV.seq ?_
  refine CV.midK (α := List Lk) (fun l => [(3, .pointer (some ⟨b0, 0, none⟩)), (8, .pointer (some ⟨b5, 0, none⟩))]) (fun l Hz => l.length = ls.length ∧ H6.n ≤ Hz.n ∧ RowS 4 Hz sv (l.map Lkl) ∧ RowS 4 Hz sv0 (ls0.map Lkl) ∧ Hz.get b0 = some (.cells (Chl mk0 lo0 hh0 sv0) 26 1) ∧ Hz.get b5 = some (.cells (Chl mk lo hh sv) 26 1)) ?_ ?_
  · by_cases h0 : 0 < ls.length
    rotate_left
    · repeat' first
        | refine CO.cons rfl ?_
        | refine CO.nil ?_
        | refine CV.seq ?_
        | refine CV.region callees ?_
        | refine CV.cond ?_
        | refine CV.skip ?_
        | refine CO.consG rfl ?_
        | (refine ⟨_, fS foC2 (by decide), ?_⟩)
        | (refine ⟨_, cell_load agLs hg6 rfl, ?_⟩)
        | (refine ⟨_, ls_len (OwnS.row hs6), ?_⟩)
        | (refine ⟨fun _ => ?_, fun _ => ?_⟩ <;> first | (exfalso; omega) | skip)
        | fail
      refine ⟨(ls), (by repeat' first | exact trivial | refine ⟨rfl, ?_⟩), ?_⟩
      exact ⟨rfl, Nat.le_refl _, OwnS.row hs6, hr6, hc6, hg6⟩
    repeat' first
      | refine CO.cons rfl ?_
      | refine CV.seq ?_
      | refine CV.region callees ?_
      | refine CO.consG rfl ?_
      | (refine ⟨_, fS foC2 (by decide), ?_⟩)
      | (refine ⟨_, cell_load agLs hg6 rfl, ?_⟩)
      | (refine ⟨_, ls_len (OwnS.row hs6), ?_⟩)
      | (refine ⟨fun _ => ?_, fun _ => ?_⟩ <;> first | (exfalso; omega) | skip)
      | fail
    refine (one_spec (by omega) (by omega) hb6 (by omega)).mono ?_
    rintro r H7 ⟨⟨x, rfl⟩, hb7, x7⟩
    have l7 := x7.1
    have hb7n := hb7.1
    have hs7 : OwnLk H7 sv ls H3.n := OwnS.boxed hs6 x7 hb6
    have hr7 : RowS 4 H7 sv0 (ls0.map Lkl) := by obtain ⟨_, w, hw⟩ := hb6; exact hr6.keepX x7 hw
    have hc7 := (x7.2 b0 (by omega) (by omega)).trans hc6
    have hp7 := (x7.2 b1 (by omega) (by omega)).trans hp6
    have hg7 := (x7.2 b5 (by omega) (by omega)).trans hg6
    cases x
    · repeat' first
        | refine CO.cons rfl ?_
        | refine CO.nil ?_
        | refine CV.cond ?_
        | refine CV.skip ?_
        | fail
      refine ⟨(ls), (by repeat' first | exact trivial | refine ⟨rfl, ?_⟩), ?_⟩
      exact ⟨rfl, by omega, OwnS.row hs7, hr7, hc7, hg7⟩
    repeat' first
      | refine CO.cons rfl ?_
      | refine CO.nil ?_
      | refine CV.cond ?_
      | refine CR.cons (es := []) ?_
      | refine CV.mX callees (by decide +kernel) [(0, []), (1, []), (2, []), (3, []), (4, []), (5, []), (7, []), (6, [7, 1]), (8, []), (9, [])] (by kernel_rfl) ?_
      | (refine ⟨_, fS foC2 (by decide), ?_⟩)
      | (refine ⟨_, cell_load agLs hg7 rfl, ?_⟩)
      | (refine ⟨_, ls_len (OwnS.row hs7), ?_⟩)
      | (refine ⟨_, ldLk hp7, ?_⟩)
      | fail
    refine CR.callL b (by omega) ?_
    refine (up_spec (Nat.le_refl _) (by omega) hb7 (by omega)).mono ?_
    rintro r H8 ⟨⟨y, rfl, y0, y1⟩, hb8, x8⟩
    have l8 := x8.1
    have hs8 : OwnLk H8 sv ls H3.n := OwnS.boxed hs7 x8 hb7
    have hr8 : RowS 4 H8 sv0 (ls0.map Lkl) := by obtain ⟨_, w, hw⟩ := hb7; exact hr7.keepX x8 hw
    have hc8 := (x8.2 b0 (by omega) (by omega)).trans hc7
    have hp8 := (x8.2 b1 (by omega) (by omega)).trans hp7
    have hg8 := (x8.2 b5 (by omega) (by omega)).trans hg7
    repeat' first
      | fail
    refine .inr ⟨by omega, _, ldLk hp7, ?_⟩
    refine .inl ⟨_, cell_load agLs hg8 rfl, rfl, OwnS.same hs8, ?_⟩
    have hsr8 := OwnS.row hs8
    obtain ⟨z, rfl⟩ : ∃ z : Nat, y = (z : Int) := ⟨y.toNat, by omega⟩
    repeat' first
      | refine CR.cons (es := []) ?_
      | (refine ⟨_, ls_addr hsr8 (by omega) (by omega), ?_⟩)
      | fail
    refine lk_set hs8 (by omega) (by omega) ?_
    intro H9 hs9 kb9
    have l9 := kb9.le
    have hsb : ∀ c, blkOf sv = some c → H3.n ≤ c ∧ c < H4.n := fun c hc => hs.lt hc
    repeat' first
      | refine CR.nil ?_
      | fail
    refine ⟨(ls.set z p), (by repeat' first | exact trivial | refine ⟨rfl, ?_⟩), ?_⟩
    exact ⟨List.length_set, by omega, OwnS.row hs9, hr.keep ⟨by omega, fun c hc => (kb9.get c (by omega) (fun e => by have := hsb _ e; omega)).trans ((x8.2 c (by omega) (by omega)).trans ((x7.2 c (by omega) (by omega)).trans ((k46.2 c (by omega)).trans ((x4.2 c (by omega) (by omega)).trans ((k3.2 c (by omega)).trans ((k2.2 c (by omega)).trans (k01.2 c (by omega))))))))⟩, (kb9.get b0 (by omega) (fun hc => by have := hsb _ hc; omega)).trans hc8, (kb9.get b5 (by omega) (fun hc => by have := hsb _ hc; omega)).trans hg8⟩
  rintro l HA ⟨hll, lA, hsA, hrA, hcA, hgA⟩ hBA
  clear hs hb4 x4 hs6 hg6 hg5 hb6 hr6 hc6 hp6 hcm k46
  have hbu : ∀ X : Heap, abuildSlice Try.prog X 37 2 [(0, Chv mk0 lo0 hh0 sv0), (1, Chv mk lo hh sv)] = some (.slice (some ⟨X.n, 0, none⟩) 2 0, X.new (.cells [VI mk0, VI lo0, VI hh0, sv0, VI mk, VI lo, VI hh, sv] 26 2), X.n) := fun X => by
    obtain ⟨xs0, ns0, cs0, rfl⟩ := rowS_sl hrA
    obtain ⟨xs1, ns1, cs1, rfl⟩ := rowS_sl hsA
    exact bu2C
  repeat' first
    | refine CO.cons rfl ?_
    | refine CO.nil ?_
    | refine CV.seq ?_
    | refine CV.region callees ?_
    | refine CV.block ?_
    | (refine ⟨_, ldCh hcA, ?_⟩)
    | (refine ⟨_, ldCh hgA, ?_⟩)
    | (refine ⟨_, _, hbu _, ?_⟩)
    | fail
  generalize hsC : Heap.new HA _ = HC
  have kC := new_keep hsC
  have lC := kC.1
  have hSC : RowS 4 HC (.slice (some ⟨HA.n, 0, none⟩) 2 0) [Chl mk0 lo0 hh0 sv0, Chl mk lo hh sv] := by
    refine ⟨by simp, .inr (.inr ⟨HA.n, 0, 0, _, _, 2, rfl, by have := new_n hsC; omega, new_get hsC, by decide, by simp, ?_⟩)⟩
    intro j qq r w hj hq
    have hj3 := (List.getElem?_eq_some_iff.1 hj).1
    rcases (by simp at hj3; omega : j = 0 ∨ j = 1) with rfl | rfl
    all_goals (simp at hj; subst hj; have hq2 := (List.getElem?_eq_some_iff.1 hq).1; rcases (by simp at hq2; omega : qq = 0 ∨ qq = 1 ∨ qq = 2 ∨ qq = 3) with rfl | rfl | rfl | rfl <;> simpa using hq)
  generalize Value.slice (some ⟨HA.n, 0, none⟩) 2 0 = SS at hSC ⊢
  have hall : ∀ i : Nat, i < 2 → ∃ (mk' lo' hh' : Int) (s' : Value) (l' : List Lk), ([Chl mk0 lo0 hh0 sv0, Chl mk lo hh sv] : List (List Value))[i]? = some (Chl mk' lo' hh' s') ∧ RowS 4 HC s' (l'.map Lkl) ∧ l'.length ≤ 20 := fun i hi => by
    rcases (by omega : i = 0 ∨ i = 1) with rfl | rfl
    · exact ⟨mk0, lo0, hh0, sv0, ls0, rfl, hrA.keep kC, hl20⟩
    · exact ⟨mk, lo, hh, sv, l, rfl, hsA.keep kC, by omega⟩
  repeat' first
    | fail
  refine CV.loopc ?_
  refine WCv.rounds callees false (α := Nat) (fun i => [(9, SS), (10, VI i)]) (fun i Hz => i ≤ 2 ∧ Keep HC Hz) (fun i => 2 - i) (0) (by repeat' first | exact trivial | refine ⟨rfl, ?_⟩ | refine ⟨slot_int (by (try simp only [Int.toNat_natCast]); omega), ?_⟩) ?_ ?_
  · exact ⟨by omega, Keep.refl _⟩
  rintro i Hx ⟨hi, kx⟩ hBx
  have lx := kx.1
  have hSx := hSC.keep kx
  have hlenS : alen Try.prog Hx 37 SS = some (.int .i64 2) := hSx.alen unCs
  by_cases hi2 : i < 2
  · obtain ⟨mk', lo', hh', s', l', e1, f1, f2⟩ := hall i hi2
    have aS : aindexAddr Try.prog 37 SS (VI i) = some (elemS SS 4 i) := hSx.addr unCs szCh (by omega) (by show (i : Int) < (2 : Nat); omega)
    have lS : ∀ X, Keep HC X → aload Try.prog 26 X (elemS SS 4 i) = some (Chv mk' lo' hh' s') := fun X k => (hSC.keep k).load agCh szCh e1
    repeat' first
      | refine CO.cons rfl ?_
      | refine CO.nil ?_
      | refine CV.seq ?_
      | refine CV.region callees ?_
      | refine CV.cond ?_
      | refine CV.block ?_
      | refine CV.skip ?_
      | (refine ⟨_, hlenS, ?_⟩)
      | (refine ⟨_, aS, ?_⟩)
      | (refine ⟨_, lS _ kx, ?_⟩)
      | (refine ⟨fun _ => ?_, fun _ => ?_⟩ <;> first | (exfalso; omega) | skip)
      | fail
    refine (ownChain_spec (by omega) (f1.keep kx) (by omega)).mono ?_
    rintro r I1 ⟨⟨q, rfl, ho⟩, i1⟩
    have li1 := i1.1
    repeat' first
      | refine CO.cons rfl ?_
      | (refine ⟨_, _, alCh, ?_⟩)
      | fail
    generalize hsm : Heap.new I1 _ = Hm
    have hgm := new_get hsm
    have km := new_keep hsm
    have nm := new_n hsm
    obtain ⟨bm, hbnm⟩ : ∃ b, Heap.n I1 = b := ⟨_, rfl⟩
    rw [hbnm] at hgm nm ⊢
    have hom := OwnS.keep ho km
    repeat' first
      | fail
    refine ⟨_, _, stCh hgm (OwnS.oneC hom), by omega, ?_⟩
    generalize hsw : Heap.set Hm bm _ = Hw
    have hgw : Hw.get bm = some (.cells (Chl mk' lo' hh' q) 26 1) := set_get hsw
    have nw := set_n hsw
    have ow := set_old hsw
    have kmw : Keep I1 Hw := keep_put km (by omega) ow nw
    have kw : Keep HC Hw := (kx.trans i1).trans kmw
    have lw := kw.1
    have g1 : RowS 4 Hw q (l'.map Lkl) := (OwnS.row ho).keep kmw
    clear ho hom hgm
    obtain ⟨gs, hgs⟩ : ∃ gs, (if chkC mk' lo' hh' l' = 0 then ordersL mk' lo' l' else []) = gs := ⟨_, rfl⟩
    have hgn : gs.length < 1000000 := by
      rw [← hgs]
      split
      · rename_i hc
        have := orders_len (mk := mk') (lo := lo') (chOk_of hc).ok.n
        omega
      · simp
    have hgl : ∀ i, i < gs.length → gs[i]!.length < 1000000 := fun i hi => by
      have hm : gs[i]! ∈ gs := by rw [getElem!_pos gs i hi]; exact List.getElem_mem _
      rw [← hgs] at hm ⊢
      split at hm
      · rename_i hc
        rw [if_pos hc]
        have := (orders_mem.1 hm).1
        omega
      · cases hm
    obtain ⟨df, hdf⟩ : ∃ df, (if chkC mk' lo' hh' l' = 0 then dayF mk' lo' hh' l' (ordersL mk' lo' l') else ((0, 0), [])) = df := ⟨_, rfl⟩
    have hdn : df.2.length < 1000000 := by
      rw [← hdf]
      split
      · rw [dayF_len]; omega
      · simp
    repeat' first
      | refine CO.cons rfl ?_
      | refine CO.nil ?_
      | refine CV.seq ?_
      | refine CV.region callees ?_
      | (refine ⟨_, ldCh hgw, ?_⟩)
      | fail
    refine (ordersP_spec (by omega) g1).mono ?_
    rw [hgs]
    obtain ⟨ck, hck⟩ : ∃ c, chkC mk' lo' hh' l' = c := ⟨_, rfl⟩
    rw [hck]
    rintro r J1 ⟨⟨q1, w1, rfl, hq1⟩, j1⟩
    have lj1 := j1.1
    have v1 := kw.trans j1
    repeat' first
      | refine CO.cons rfl ?_
      | refine CO.nil ?_
      | refine CV.seq ?_
      | refine CV.region callees ?_
      | (refine ⟨_, aS, ?_⟩)
      | (refine ⟨_, lS _ v1, ?_⟩)
      | fail
    refine (ordersR_spec (by omega) (f1.keep v1)).mono ?_
    rw [hgs, hck]
    rintro r J2 ⟨⟨q2, w2, rfl, hq2⟩, j2⟩
    have lj2 := j2.1
    have v2 := v1.trans j2
    have j12 := j1.trans j2
    have hS2 := (j12.2 bm (by omega)).trans hgw
    repeat' first
      | refine CO.cons rfl ?_
      | refine CO.nil ?_
      | refine CV.seq ?_
      | refine CV.region callees ?_
      | (refine ⟨_, ldCh hS2, ?_⟩)
      | fail
    refine (daysP_spec (by omega) (g1.keep j12)).mono ?_
    rw [hdf, hck]
    rintro r J3 ⟨⟨q3, a, b', ps, rfl, hq3, rfl⟩, j3⟩
    have lj3 := j3.1
    repeat' first
      | refine CO.cons rfl ?_
      | (refine ⟨_, _, alSp, ?_⟩)
      | fail
    generalize hs7 : Heap.new J3 _ = H7
    have hg7 := new_get hs7
    have k7 := new_keep hs7
    have n7 := new_n hs7
    obtain ⟨b7, hbn7⟩ : ∃ b, Heap.n J3 = b := ⟨_, rfl⟩
    rw [hbn7] at hg7 n7 ⊢
    repeat' first
      | fail
    refine ⟨_, _, stSp hg7, by omega, ?_⟩
    generalize hs8 : Heap.set H7 b7 _ = H8
    have hg8 : H8.get b7 = some (.cells ([VI a, VI b']) sT 1) := set_get hs8
    have n8 := set_n hs8
    have o8 := set_old hs8
    have k38 : Keep J3 H8 := keep_put k7 (by omega) o8 n8
    have l8 := k38.1
    have v3 : Keep HC H8 := (v2.trans j3).trans k38
    repeat' first
      | refine CO.cons rfl ?_
      | refine CO.nil ?_
      | refine CV.seq ?_
      | refine CV.region callees ?_
      | (refine ⟨_, aS, ?_⟩)
      | (refine ⟨_, lS _ v3, ?_⟩)
      | fail
    refine (daysR_spec (by omega) (f1.keep v3)).mono ?_
    rw [hdf, hck]
    rintro r J4 ⟨⟨q4, c', d', ps', rfl, hq4, heq⟩, j4⟩
    simp only [Prod.mk.injEq] at heq
    obtain ⟨⟨rfl, rfl⟩, rfl⟩ := heq
    have lj4 := j4.1
    repeat' first
      | refine CO.cons rfl ?_
      | (refine ⟨_, _, alSp, ?_⟩)
      | fail
    generalize hs9 : Heap.new J4 _ = H9
    have hg9 := new_get hs9
    have k9 := new_keep hs9
    have n9 := new_n hs9
    obtain ⟨b9, hbn9⟩ : ∃ b, Heap.n J4 = b := ⟨_, rfl⟩
    rw [hbn9] at hg9 n9 ⊢
    repeat' first
      | fail
    refine ⟨_, _, stSp hg9, by omega, ?_⟩
    generalize hsd : Heap.set H9 b9 _ = Hd
    have hgd : Hd.get b9 = some (.cells ([VI c', VI d']) sT 1) := set_get hsd
    have nd := set_n hsd
    have od := set_old hsd
    have k4d : Keep J4 Hd := keep_put k9 (by omega) od nd
    have ld := k4d.1
    have j8d : Keep H8 Hd := j4.trans k4d
    have jwd : Keep Hw Hd := ((j12.trans j3).trans k38).trans j8d
    have vd : Keep HC Hd := kw.trans jwd
    have hSd := (jwd.2 bm (by omega)).trans hgw
    have hsp1 := (j8d.2 b7 (by omega)).trans hg8
    have r1d := (hq1.gri.keep j2).keep ((j3.trans k38).trans j8d)
    have r2d := hq2.gri.keep ((j3.trans k38).trans j8d)
    have r3d := (hq3.keep k38).keep j8d
    have r4d := hq4.keep k4d
    have g1d := g1.keep jwd
    clear hq1 hq2 hq3 hq4 hg7 hg8 hg9 hS2 hgw
    repeat' first
      | refine CO.cons rfl ?_
      | refine CO.nil ?_
      | refine CV.seq ?_
      | refine CR.cons (es := []) ?_
      | refine CR.call ?_
      | refine CV.wideR callees (by decide +kernel) [(0, []), (2, []), (3, []), (4, []), (5, []), (1, [5]), (6, []), (7, []), (8, []), (9, []), (10, []), (11, []), (12, []), (13, []), (14, []), (15, []), (16, []), (17, []), (18, []), (19, []), (20, []), (21, []), (22, []), (23, []), (24, []), (25, []), (26, []), (27, []), (28, []), (29, []), (30, []), (31, []), (32, []), (33, []), (34, []), (35, []), (36, []), (37, []), (38, []), (39, []), (40, []), (41, []), (42, []), (43, [])] (by kernel_rfl) ?_
      | (refine ⟨_, ldCh hSd, ?_⟩)
      | (refine ⟨_, aS, ?_⟩)
      | (refine ⟨_, lS _ vd, ?_⟩)
      | fail
    refine (checkChain_spec (Nat.le_refl _) g1d).mono ?_
    rw [hck]
    rintro r K1 ⟨rfl, m1⟩
    have lm1 := m1.1
    repeat' first
      | refine CR.cons (es := []) ?_
      | fail
    refine (checkChainR_spec (by omega) (f1.keep (vd.trans m1))).mono ?_
    rw [hck]
    rintro r K2 ⟨rfl, m2⟩
    have lm2 := m2.1
    have m12 := m1.trans m2
    have hsp2 := (m12.2 b7 (by omega)).trans hsp1
    have hsq2 := (m12.2 b9 (by omega)).trans hgd
    repeat' first
      | refine CR.cons (es := []) ?_
      | (refine ⟨_, ldSp hsp2, ?_⟩)
      | (refine ⟨_, ldSp hsq2, ?_⟩)
      | (refine ⟨_, fun tm ha => step1_neSp rfl (ev_tmp ha rfl) (ev_tmp ha rfl), ?_⟩)
      | (refine ⟨fun _ => ?_, fun _ => ?_⟩ <;> first | (exfalso; omega) | skip)
      | fail
    refine (eqLists_spec (by omega) (r1d.keep m12) (r2d.keep m12) hgn hgl).mono ?_
    rintro r K3 ⟨rfl, m3⟩
    have lm3 := m3.1
    have m13 := m12.trans m3
    repeat' first
      | refine CR.cons (es := []) ?_
      | fail
    refine (eqSpansK_spec (by omega) (r3d.keep m13) (r4d.keep m13) hdn).mono ?_
    rintro r K4 ⟨rfl, rfl⟩
    have hS4 := (m13.2 bm (by omega)).trans hSd
    have vd3 := vd.trans m13
    repeat' first
      | refine CR.cons (es := []) ?_
      | (refine ⟨_, ldCh hS4, ?_⟩)
      | (refine ⟨_, aS, ?_⟩)
      | (refine ⟨_, lS _ vd3, ?_⟩)
      | fail
    refine (eqChains_spec (by omega) (g1d.keep m13) (f1.keep vd3) (by omega)).mono ?_
    rintro r K5 ⟨rfl, m5⟩
    repeat' first
      | refine CO.cons rfl ?_
      | refine CO.nil ?_
      | refine CV.region callees ?_
      | refine CV.cond ?_
      | refine CV.skip ?_
      | refine CR.cons ?_
      | refine CR.nil ?_
      | refine ⟨(⟨by omega, by omega⟩ : inI64 _), ?_⟩
      | fail
    refine ⟨(i + 1), (by repeat' first | exact trivial | refine ⟨rfl, ?_⟩ | refine ⟨slot_int (by (try simp only [Int.toNat_natCast]); omega), ?_⟩), (by (try dsimp only); omega), ?_⟩
    exact ⟨by omega, vd3.trans m5⟩
  obtain rfl : i = 2 := by omega
  repeat' first
    | refine CO.cons rfl ?_
    | refine CO.nil ?_
    | refine CV.seq ?_
    | refine CV.region callees ?_
    | refine CV.cond ?_
    | refine CV.exit ?_
    | (refine ⟨_, hlenS, ?_⟩)
    | (refine ⟨fun _ => ?_, fun _ => ?_⟩ <;> first | (exfalso; omega) | skip)
    | fail
  refine (awake_spec (by omega)).mono ?_
  rintro r I5 ⟨rfl, j5⟩
  repeat' first
    | refine CO.cons rfl ?_
    | refine CO.nil ?_
    | refine CV.ret ?_
    | fail
  exact ⟨rfl, rfl⟩
end Go.Proofs.Ytijimplcjaeneaa
