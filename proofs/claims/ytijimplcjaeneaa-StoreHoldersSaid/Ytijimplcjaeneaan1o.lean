
/- The reference's holders. -/
import Derived.Test.Ytijimplcjaeneaan0o
import Derived.Test.Ytijimplcjaeneaal4o
import Derived.Test.Ytijimplcjaeneaam1o
set_option linter.unusedVariables false
set_option linter.unusedSimpArgs false
namespace Go.Proofs.Ytijimplcjaeneaa
open Go.AI
abbrev bT : TypeId := 4
theorem unBs : Try.prog.underlying 88 = some (.slice bT) := by kernel_rfl
theorem szBo : sizeB Try.prog bT = some 1 := by kernel_rfl
theorem agBo : isAggB Try.prog bT = some false := by kernel_rfl
theorem oneBo : oneBB Try.prog bT = some (.bool false, 1) := by kernel_rfl
theorem mk21 {H : Heap} : amakeSlice Try.prog H 88 (.int .i64 21) (.int .i64 21) = some (.slice (some ⟨H.n, 0, none⟩) 21 0, H.new (.cells (List.replicate 21 (.bool false)) bT 2), H.n) := make_row unBs oneBo (by omega) 21 (by omega)
abbrev TV (M : List Int) : List Value := (tabM M).map Value.bool
theorem TV_len {M : List Int} : (TV M).length = 21 := by rw [List.length_map, tabM_len]
theorem tab_put {K : Heap → Prop} {B B0 : Nat} {H : Heap} {tv : Value} {M : List Int} {x : Int} (h : Own bT H tv (TV M) B0) (hB : B ≤ B0) (h0 : -1 ≤ x) (h1 : x ≤ 19)
    (hk : ∀ H', Own bT H' tv (TV (x :: M)) B0 → KeepBut tv H H' → K H') : ∃ H' b, astore Try.prog bT H (.bool true) (elemAt tv (x + 1).toNat) = some (H', b) ∧ B ≤ b ∧ K H' :=
  store_ask szBo h hB (by rw [TV_len]; omega) rfl fun H' h' => hk H' (by rw [TV, ← tabM_set h0 h1, List.map_set]; exact h')
theorem tab_addr {H : Heap} {tv : Value} {M : List Int} {B0 : Nat} (h : Own bT H tv (TV M) B0) {n : Int} (h0 : 0 ≤ n) (h1 : n < 21) : aindexAddr Try.prog 88 tv (.int .i64 n) = some (elemAt tv n.toNat) := h.row.addr unBs szBo h0 (by rw [TV_len]; exact h1)
theorem tab_load {H : Heap} {tv : Value} {M : List Int} (h : Row H tv (TV M)) {i : Nat} (hi : i < 21) : aload Try.prog bT H (elemAt tv i) = some (.bool (tabM M)[i]!) :=
  h.load agBo (by rw [List.getElem?_map, List.getElem?_eq_getElem (by rw [tabM_len]; exact hi), getElem!_pos _ i (by rw [tabM_len]; exact hi)]; rfl)
theorem evs_oat {mk lo hi : Int} {ls : List Lk} {o : List Int} : (evsL mk lo hi ls o)[0]!.o = mk ∧ ∀ j, j < o.length → (evsL mk lo hi ls o)[j + 1]!.o = ls[(o[j]!).toNat]!.t := by
  have h : (evsL mk lo hi ls o).map (·.o) = mk :: o.map fun k => ls[k.toNat]!.t := by
    rw [evsL, downL_own, evs0, List.map_cons, upL_owns]
  have hl := evs_len (mk := mk) (lo := lo) (hi := hi) (ls := ls) (o := o)
  have key : ∀ j, j < o.length + 1 → (evsL mk lo hi ls o)[j]!.o = (mk :: o.map fun k => ls[k.toNat]!.t)[j]! := fun j hj => by
    have := congrArg (fun l => l[j]!) h
    rw [← this]
    show _ = ((evsL mk lo hi ls o).map (·.o))[j]!
    rw [map_at (by rw [hl]; exact hj)]
  refine ⟨key 0 (by omega), fun j hj => ?_⟩
  rw [key (j + 1) (by omega), getElem!_pos _ _ (by simp; omega), List.getElem_cons_succ, List.getElem_map, getElem!_pos o j hj]
set_option maxHeartbeats 32000000 in
set_option maxRecDepth 100000 in
theorem holdR_spec {B : Nat} {H : Heap} {mk lo hh d : Int} {sv : Value} {ls : List Lk} (hB : B ≤ H.n) (hr : RowS 4 H sv (ls.map Lkl)) (hk : ChOk mk lo hh ls) :
    CallB Try.prog B 92 [Chv mk lo hh sv, VI d] H (fun v H' => Row H' v (TV (markS mk lo hh ls d (ordersL mk lo ls))) ∧ Keep H H') := by
  have hm0 := hk.m0
  have hm1 := hk.m1
  have hls := hk.ok
  have hn7 := hls.n
  have htb : ∀ z, z < ls.length → 0 ≤ ls[z]!.t ∧ ls[z]!.t ≤ 19 := fun z hz => (linkE_bd (linksE_all hk.e ls[z]! (by rw [getElem!_pos ls z hz]; exact List.getElem_mem _))).2.1
  refine CV.enter callees false rfl Try.func92 rfl (by kernel_rfl) (Nat.le_of_ble_eq_true rfl) hB ?_
  repeat' first
    | refine CO.cons rfl ?_
    | refine CV.seq ?_
    | refine CV.region callees ?_
    | fail
  refine ⟨(by simp only [notTuple]), ?_⟩
  rw [boxCh hr.cells.1]
  generalize hs0 : Heap.new H _ = H0
  have hg0 := new_get hs0
  have k0 := new_keep hs0
  have n0 := new_n hs0
  obtain ⟨b0, hbn0⟩ : ∃ b, Heap.n H = b := ⟨_, rfl⟩
  rw [hbn0] at hg0 n0 ⊢
  repeat' first
    | refine CO.cons rfl ?_
    | refine CO.nil ?_
    | refine CV.seq ?_
    | refine CV.region callees ?_
    | (refine ⟨_, _, mk21, ?_⟩)
    | fail
  generalize hs1 : Heap.new H0 _ = H1
  have hg1 := new_get hs1
  have k1 := new_keep hs1
  have n1 := new_n hs1
  obtain ⟨b1, hbn1⟩ : ∃ b, Heap.n H0 = b := ⟨_, rfl⟩
  rw [hbn1] at hg1 n1 ⊢
  have k01 := k0.trans k1
  have hc1 := (k1.2 b0 (by omega)).trans hg0
  have hr1 := hr.keep k01
  have hT1 : Own bT H1 (.slice (some ⟨b1, 0, none⟩) 21 0) (TV []) b1 := .inr ⟨b1, by rw [TV_len], Nat.le_refl _, by omega, by rw [hg1]; rfl⟩
  obtain ⟨tv, htv⟩ : ∃ tv, Value.slice (some ⟨b1, 0, none⟩) 21 0 = tv := ⟨_, rfl⟩
  have htb1 : ∀ c, blkOf tv = some c → c = b1 := fun c hc => by rw [← htv] at hc; cases hc; rfl
  rw [htv] at hT1 ⊢
  repeat' first
    | refine CO.cons rfl ?_
    | (refine ⟨_, ldCh hc1, ?_⟩)
    | fail
  refine (storiesR_spec (by omega) hr1 hls hk.l0 hk.l1 hk.h1).mono ?_
  rintro v H2 ⟨⟨rs, hst⟩, k2⟩
  have l2 := k2.1
  have hol : ∀ o ∈ ordersL mk lo ls, o.length = ls.length ∧ ∀ k ∈ o, 0 ≤ k ∧ k < ls.length := fun o ho => ⟨(orders_mem.1 ho).1, (orders_mem.1 ho).2.1.mem⟩
  have hSn := orders_len (mk := mk) (lo := lo) hls.n
  obtain ⟨nx, hnx⟩ : ∃ n, H1.n = n := ⟨_, rfl⟩
  rw [hnx] at hst
  have hmS : markS mk lo hh ls d (ordersL mk lo ls) = (ordersL mk lo ls).foldl (fun M o => markJ d M (evsL mk lo hh ls o) (o.length + 1)) [] := rfl
  rw [hmS]
  generalize ordersL mk lo ls = S at *
  have hT2 := hT1.keep k2
  have hc2 := (k2.2 b0 (by omega)).trans hc1
  have hr2 := hr1.keep k2
  have kH2 := k01.trans k2
  repeat' first
    | refine CO.cons rfl ?_
    | refine CO.nil ?_
    | refine CV.seq ?_
    | refine CV.region callees ?_
    | refine CV.block ?_
    | fail
  refine CV.loopc ?_
  refine WCv.rounds callees false (α := Nat × List Int) (fun (i, M) => [(1, VI d), (2, .pointer (some ⟨b0, 0, none⟩)), (5, tv), (6, v), (7, VI i)]) (fun (i, M) Hz => i ≤ S.length ∧ M = (S.take i).foldl (fun M o => markJ d M (evsL mk lo hh ls o) (o.length + 1)) [] ∧ Own bT Hz tv (TV M) b1 ∧ H2.n ≤ Hz.n ∧ (∀ c, c < H2.n → c ≠ b1 → Hz.get c = H2.get c)) (fun (i, M) => S.length - i) (0, []) (by repeat' first | exact trivial | refine ⟨rfl, ?_⟩ | refine ⟨slot_int (by (try simp only [Int.toNat_natCast]); omega), ?_⟩) ?_ ?_
  · exact ⟨by omega, rfl, hT2, Nat.le_refl _, fun _ _ _ => rfl⟩
  rintro ⟨i, M⟩ Hx ⟨hi, hM, hTx, lx, hfx⟩ hBx
  have hsto : ∀ {X : Heap}, H2.n ≤ X.n → (∀ c, c < H2.n → c ≠ b1 → X.get c = H2.get c) → StoRow mk lo hh ls X v rs S nx := fun {X} hn hf => by
    have hx : ∀ c, nx ≤ c → c < H2.n → X.get c = H2.get c := fun c h1 h2 => hf c h2 (by omega)
    refine ⟨⟨hst.o.1, ?_⟩, hst.n, fun j hj => ?_⟩
    · rcases hst.o.2 with h | ⟨b', h1, h2, h3, h4⟩
      · exact .inl h
      · exact .inr ⟨b', h1, h2, by omega, by rw [hx b' h2 h3]; exact h4⟩
    · obtain ⟨a, b, c⟩ := hst.i j hj
      exact ⟨own_keepF a hn fun c hc => hx c (a.lt hc).1 (a.lt hc).2, own_keepF b hn fun c hc => hx c (b.lt hc).1 (b.lt hc).2, own_keepF c hn fun c' hc => hx c' (c.lt hc).1 (c.lt hc).2⟩
  have hsx := hsto lx hfx
  by_cases hi2 : i < S.length
  · obtain ⟨a1, a2, _, _, _⟩ := sto_at hsx hi2
    have hoi := hol S[i]! (by rw [getElem!_pos S i hi2]; exact List.getElem_mem _)
    obtain ⟨r1, r2, r3⟩ := hsx.i i hi2
    have hat : (rs.map Sto3)[i]? = some (Sto3 rs[i]!) := by rw [List.getElem?_map, List.getElem?_eq_getElem (by have := hst.n; omega), getElem!_pos rs i (by have := hst.n; omega)]; rfl
    have a3 : aload Try.prog yS Hx (elemS v 3 i) = some (Stv rs[i]!.1 rs[i]!.2.1 rs[i]!.2.2) := hsx.o.row.load agSt szSt hat
    repeat' first
      | refine CO.cons rfl ?_
      | refine CO.nil ?_
      | refine CV.seq ?_
      | refine CV.region callees ?_
      | refine CV.cond ?_
      | refine CV.block ?_
      | refine CV.skip ?_
      | (refine ⟨_, a2, ?_⟩)
      | (refine ⟨_, a1, ?_⟩)
      | (refine ⟨_, a3, ?_⟩)
      | (refine ⟨_, _, alSt, ?_⟩)
      | (refine ⟨fun _ => ?_, fun _ => ?_⟩ <;> first | (exfalso; omega) | skip)
      | fail
    generalize hs3 : Heap.new Hx _ = H3
    have hg3 := new_get hs3
    have k3 := new_keep hs3
    have n3 := new_n hs3
    obtain ⟨b3, hbn3⟩ : ∃ b, Heap.n Hx = b := ⟨_, rfl⟩
    rw [hbn3] at hg3 n3 ⊢
    refine ⟨_, _, stSt hg3 (Row.oneC r1.row).1 (Row.oneC r2.row).1 (Row.oneC r3.row).1, by omega, ?_⟩
    generalize hs4 : Heap.set H3 b3 _ = H4
    have hg4 : H4.get b3 = some (.cells (Stl rs[i]!.1 rs[i]!.2.1 rs[i]!.2.2) yS 1) := set_get hs4
    have n4 := set_n hs4
    have o4 := set_old hs4
    have kx4 : Keep Hx H4 := keep_put k3 (by omega) o4 n4
    have l4 := kx4.1
    have hT4 := hTx.keep kx4
    have htk : (S.take (i + 1)).foldl (fun M o => markJ d M (evsL mk lo hh ls o) (o.length + 1)) [] = markJ d M (evsL mk lo hh ls S[i]!) (S[i]!.length + 1) := by rw [one_at hi2, List.foldl_append, ← hM]; rfl
    have hE : (evsL mk lo hh ls S[i]!).length = S[i]!.length + 1 := evs_len
    have hoat := evs_oat (mk := mk) (lo := lo) (hi := hh) (ls := ls) (o := S[i]!)
    have hla := fun j => least_at (mk := mk) (lo := lo) (hi := hh) (ls := ls) (o := S[i]!) (j := j)
    have hma := fun j => most_at (mk := mk) (lo := lo) (hi := hh) (ls := ls) (o := S[i]!) (j := j)
    have hll : (leastL mk lo hh ls S[i]!).length = S[i]!.length + 1 := by unfold leastL; rw [List.length_map, hE]
    have hml : (mostL mk lo hh ls S[i]!).length = S[i]!.length + 1 := by unfold mostL; rw [List.length_map, hE]
    generalize evsL mk lo hh ls S[i]! = E at *
    generalize leastL mk lo hh ls S[i]! = Le at *
    generalize mostL mk lo hh ls S[i]! = Mo at *
    generalize S[i]! = o at *
    generalize rs[i]! = w at *
    obtain ⟨w1, w2, w3⟩ := w
    dsimp only at r1 r2 r3 hg4
    have q1 : Ints H4 w1 o := Row.keep r1.row kx4
    have q2 : Ints H4 w2 Le := Row.keep r2.row kx4
    have q3 : Ints H4 w3 Mo := Row.keep r3.row kx4
    have hne : ∀ {X : Heap} {u : Value} {us : List Int}, Own 3 Hx u (us.map VI) nx → H4.n ≤ X.n → (∀ c, c < H4.n → c ≠ b1 → X.get c = H4.get c) → Ints X u us := fun {X u us} hu hn hf => by
      have h4 := hu.keep kx4
      exact (own_keepF h4 hn fun c hc => hf c (h4.lt hc).2 (by have := (h4.lt hc).1; omega)).row
    have hc4 := (kx4.2 b0 (by omega)).trans ((hfx b0 (by omega) (by omega)).trans hc2)
    have hr4 : ∀ {X : Heap}, H4.n ≤ X.n → (∀ c, c < H4.n → c ≠ b1 → X.get c = H4.get c) → RowS 4 X sv (ls.map Lkl) := fun {X} hn hf => hr.keep ⟨by have := kH2.1; omega, fun c hc => (hf c (by have := kH2.1; omega) (by omega)).trans ((kx4.2 c (by have := kH2.1; omega)).trans ((hfx c (by have := kH2.1; omega) (by omega)).trans (kH2.2 c hc)))⟩
    have e0 : Mo[(0 : Int).toNat]! = E[0]!.hi := hma 0 (by omega)
    clear a1 a2 a3 hat hsx hTx
    repeat' first
      | refine CO.nil ?_
      | fail
    refine CV.seq ?_
    refine CV.midK (α := Unit) (fun _u => [(1, VI d), (2, .pointer (some ⟨b0, 0, none⟩)), (5, tv), (6, v), (7, VI i), (8, .pointer (some ⟨b3, 0, none⟩))]) (fun _u Hz => Own bT Hz tv (TV (markJ d M E 0)) b1 ∧ H4.n ≤ Hz.n ∧ (∀ c, c < H4.n → c ≠ b1 → Hz.get c = H4.get c)) ?_ ?_
    · by_cases hd : d < E[0]!.hi
      · repeat' first
          | refine CO.cons rfl ?_
          | refine CO.nil ?_
          | refine CV.seq ?_
          | refine CV.region callees ?_
          | refine CV.cond ?_
          | refine ⟨_, ints_addr (by assumption) (by omega) (by omega), ?_⟩
          | refine ⟨_, ints_load (by assumption) (by omega) (by omega), ?_⟩
          | (refine ⟨_, fS foY2 (by decide), ?_⟩)
          | (refine ⟨_, cell_load agIs1 hg4 rfl, ?_⟩)
          | (refine ⟨_, tab_addr hT4 (by omega) (by omega), ?_⟩)
          | (refine ⟨fun _ => ?_, fun _ => ?_⟩ <;> first | (exfalso; omega) | skip)
          | fail
        refine tab_put (B := B) (x := -1) hT4 (by omega) (by omega) (by omega) ?_
        intro H5 hT5 k5
        have l5 := k5.le
        repeat' first
          | refine CO.nil ?_
          | fail
        refine ⟨(()), (by repeat' first | exact trivial | refine ⟨rfl, ?_⟩), ?_⟩
        refine ⟨?_, by omega, fun c h1 h2 => k5.get c h1 (fun e => h2 (htb1 c e))⟩
        rw [markJ, if_pos hd]; exact hT5
      · repeat' first
          | refine CO.cons rfl ?_
          | refine CO.nil ?_
          | refine CV.seq ?_
          | refine CV.region callees ?_
          | refine CV.cond ?_
          | refine CV.skip ?_
          | refine ⟨_, ints_addr (by assumption) (by omega) (by omega), ?_⟩
          | refine ⟨_, ints_load (by assumption) (by omega) (by omega), ?_⟩
          | (refine ⟨_, fS foY2 (by decide), ?_⟩)
          | (refine ⟨_, cell_load agIs1 hg4 rfl, ?_⟩)
          | (refine ⟨fun _ => ?_, fun _ => ?_⟩ <;> first | (exfalso; omega) | skip)
          | fail
        refine ⟨(()), (by repeat' first | exact trivial | refine ⟨rfl, ?_⟩), ?_⟩
        refine ⟨?_, by omega, fun c h1 h2 => rfl⟩
        rw [markJ, if_neg hd]; exact hT4
    rintro _ H5 ⟨hT5, l5, f5⟩ hB5
    have hc5 := (f5 b0 (by omega) (by omega)).trans hc4
    repeat' first
      | refine CO.cons rfl ?_
      | refine CO.nil ?_
      | refine CV.seq ?_
      | refine CV.region callees ?_
      | refine CV.block ?_
      | (refine ⟨_, fS foC0 (by decide), ?_⟩)
      | (refine ⟨_, cell_load ag3 hc5 rfl, ?_⟩)
      | fail
    refine CV.loopc ?_
    refine WCv.rounds callees false (α := Nat × List Int × Int) (fun (j, N, h) => [(1, VI d), (2, .pointer (some ⟨b0, 0, none⟩)), (5, tv), (6, v), (7, VI i), (8, .pointer (some ⟨b3, 0, none⟩)), (9, VI h), (10, VI j)]) (fun (j, N, h) Hz => j ≤ o.length + 1 ∧ N = markJ d M E j ∧ Own bT Hz tv (TV N) b1 ∧ H4.n ≤ Hz.n ∧ (∀ c, c < H4.n → c ≠ b1 → Hz.get c = H4.get c) ∧ (j = 0 → h = mk)) (fun (j, N, h) => o.length + 1 - j) (0, markJ d M E 0, mk) (by repeat' first | exact trivial | refine ⟨rfl, ?_⟩ | refine ⟨slot_int (by (try simp only [Int.toNat_natCast]); omega), ?_⟩) ?_ ?_
    · exact ⟨by omega, rfl, hT5, l5, f5, fun _ => rfl⟩
    rintro ⟨j, N, h⟩ Hy ⟨hj, hN, hTy, ly, fy, hh0⟩ hBy
    have hgy := (fy b3 (by omega) (by omega)).trans hg4
    have hcy := (fy b0 (by omega) (by omega)).trans hc4
    have hry := hr4 ly fy
    have i1 : Ints Hy w1 o := hne r1 ly fy
    have i2 : Ints Hy w2 Le := hne r2 ly fy
    have i3 : Ints Hy w3 Mo := hne r3 ly fy
    by_cases hj2 : j < o.length + 1
    · repeat' first
        | refine CO.cons rfl ?_
        | refine CO.nil ?_
        | refine CV.seq ?_
        | refine CV.region callees ?_
        | refine ⟨_, ints_len (by assumption), ?_⟩
        | (refine ⟨_, fS foY1 (by decide), ?_⟩)
        | (refine ⟨_, cell_load agIs1 hgy rfl, ?_⟩)
        | (refine ⟨fun _ => ?_, fun _ => ?_⟩ <;> first | (exfalso; omega) | skip)
        | fail
      refine CV.cond ?_
      refine CV.skip ?_
      refine CV.seq ?_
      refine CV.block ?_
      refine CV.seq ?_
      obtain ⟨eo, heo⟩ : ∃ x, E[j]!.o = x := ⟨_, rfl⟩
      have heb : 0 ≤ eo ∧ eo ≤ 19 := by
        rw [← heo]
        cases j with
        | zero => rw [hoat.1]; exact ⟨hm0, hm1⟩
        | succ j =>
          have h1 := hoat.2 j (by omega)
          have h2 := hoi.2 o[j]! (by rw [getElem!_pos o j (by omega)]; exact List.getElem_mem _)
          rw [h1]; exact htb _ (by omega)
      refine CV.midK (α := Unit) (fun _u => [(1, VI d), (2, .pointer (some ⟨b0, 0, none⟩)), (5, tv), (6, v), (7, VI i), (8, .pointer (some ⟨b3, 0, none⟩)), (9, VI eo), (10, VI j)]) (fun _u Hz => Hz = Hy) ?_ ?_
      · by_cases hj0 : 0 < j
        · have h2 := hoi.2 o[j - 1]! (by rw [getElem!_pos o (j - 1) (by omega)]; exact List.getElem_mem _)
          obtain ⟨z, hz⟩ : ∃ z : Nat, o[j - 1]! = (z : Int) := ⟨(o[j - 1]!).toNat, by omega⟩
          have hzl : z < ls.length := by omega
          have h3 := hoat.2 (j - 1) (by omega)
          rw [show j - 1 + 1 = j by omega, hz, Int.toNat_natCast, heo] at h3
          have hadr : aindexAddr Try.prog 24 sv (.int .i64 o[((j : Int) - 1).toNat]!) = some (elemS sv 4 z) := by
            rw [show ((j : Int) - 1).toNat = j - 1 by omega, hz]; exact ls_addr hry (by omega) (by omega)
          have hf := lk_f1r hry hzl
          rw [h3]
          repeat' first
            | refine CO.cons rfl ?_
            | refine CO.nil ?_
            | refine CV.seq ?_
            | refine CV.region callees ?_
            | refine CV.cond ?_
            | refine CV.draw callees (by decide +kernel) ?_
            | refine CH.cons rfl ?_
            | refine CH.nil ?_
            | refine ⟨_, ints_addr (by assumption) (by omega) (by omega), ?_⟩
            | refine ⟨_, ints_load (by assumption) (by omega) (by omega), ?_⟩
            | refine ⟨(⟨by omega, by omega⟩ : inI64 _), ?_⟩
            | (refine ⟨_, fS foC2 (by decide), ?_⟩)
            | (refine ⟨_, cell_load agLs hcy rfl, ?_⟩)
            | (refine ⟨_, fS foY0 (by decide), ?_⟩)
            | (refine ⟨_, cell_load agIs1 hgy rfl, ?_⟩)
            | (refine ⟨_, hadr, ?_⟩)
            | (refine ⟨_, hf.1, ?_⟩)
            | (refine ⟨_, hf.2, ?_⟩)
            | (refine ⟨fun _ => ?_, fun _ => ?_⟩ <;> first | (exfalso; omega) | skip)
            | fail
          refine ⟨(()), (by repeat' first | exact trivial | refine ⟨rfl, ?_⟩), ?_⟩
          rfl
        · obtain rfl : j = 0 := by omega
          obtain rfl : h = eo := by rw [← heo, hoat.1]; exact hh0 rfl
          repeat' first
            | refine CO.cons rfl ?_
            | refine CO.nil ?_
            | refine CV.seq ?_
            | refine CV.region callees ?_
            | refine CV.cond ?_
            | refine CV.skip ?_
            | (refine ⟨fun _ => ?_, fun _ => ?_⟩ <;> first | (exfalso; omega) | skip)
            | fail
          refine ⟨(()), (by repeat' first | exact trivial | refine ⟨rfl, ?_⟩), ?_⟩
          rfl
      rintro _ H6 rfl hB6
      have e1 : Le[(j : Int).toNat]! = E[j]!.lo := hla j (by omega)
      have e2 : j < o.length → Mo[((j : Int) + 1).toNat]! = E[j + 1]!.hi := fun hjo => by rw [show ((j : Int) + 1).toNat = j + 1 by omega]; exact hma (j + 1) (by omega)
      have hmk : markJ d M E (j + 1) = if GapJ d E j then eo :: markJ d M E j else markJ d M E j := by rw [markJ, heo]
      by_cases c1 : E[j]!.lo ≤ d
      · by_cases c2 : j = o.length
        · repeat' first
            | refine CO.cons rfl ?_
            | refine CO.nil ?_
            | refine CV.seq ?_
            | refine CV.region callees ?_
            | refine CV.cond ?_
            | refine CO.consG rfl ?_
            | refine ⟨_, ints_len (by assumption), ?_⟩
            | refine ⟨_, ints_addr (by assumption) (by omega) (by omega), ?_⟩
            | refine ⟨_, ints_load (by assumption) (by omega) (by omega), ?_⟩
            | refine ⟨(⟨by omega, by omega⟩ : inI64 _), ?_⟩
            | (refine ⟨_, fS foY1 (by decide), ?_⟩)
            | (refine ⟨_, fS foY2 (by decide), ?_⟩)
            | (refine ⟨_, cell_load agIs1 hgy rfl, ?_⟩)
            | (refine ⟨_, tab_addr hTy (by omega) (by omega), ?_⟩)
            | (refine ⟨fun _ => ?_, fun _ => ?_⟩ <;> first | (exfalso; omega) | skip)
            | fail
          refine tab_put (B := B) (x := eo) hTy (by omega) (by omega) (by omega) ?_
          intro H7 hT7 k7
          have l7 := k7.le
          repeat' first
            | refine CO.cons rfl ?_
            | refine CO.nil ?_
            | refine CV.region callees ?_
            | refine ⟨(⟨by omega, by omega⟩ : inI64 _), ?_⟩
            | fail
          refine ⟨(j + 1, eo :: N, eo), (by repeat' first | exact trivial | refine ⟨rfl, ?_⟩ | refine ⟨slot_int (by (try simp only [Int.toNat_natCast]); omega), ?_⟩), (by (try dsimp only); omega), ?_⟩
          exact ⟨by omega, by rw [hmk, if_pos ⟨c1, .inl (by omega)⟩, hN], hT7, by omega, fun c h1 h2 => (k7.get c (by omega) (fun e => h2 (htb1 c e))).trans (fy c h1 h2), fun h => by omega⟩
        · have e3 := e2 (by omega)
          by_cases c3 : d < E[j + 1]!.hi
          · repeat' first
              | refine CO.cons rfl ?_
              | refine CO.nil ?_
              | refine CV.seq ?_
              | refine CV.region callees ?_
              | refine CV.cond ?_
              | refine CO.consG rfl ?_
              | refine ⟨_, ints_len (by assumption), ?_⟩
              | refine ⟨_, ints_addr (by assumption) (by omega) (by omega), ?_⟩
              | refine ⟨_, ints_load (by assumption) (by omega) (by omega), ?_⟩
              | refine ⟨(⟨by omega, by omega⟩ : inI64 _), ?_⟩
              | (refine ⟨_, fS foY1 (by decide), ?_⟩)
              | (refine ⟨_, fS foY2 (by decide), ?_⟩)
              | (refine ⟨_, cell_load agIs1 hgy rfl, ?_⟩)
              | (refine ⟨_, tab_addr hTy (by omega) (by omega), ?_⟩)
              | (refine ⟨fun _ => ?_, fun _ => ?_⟩ <;> first | (exfalso; omega) | skip)
              | fail
            refine tab_put (B := B) (x := eo) hTy (by omega) (by omega) (by omega) ?_
            intro H7 hT7 k7
            have l7 := k7.le
            repeat' first
              | refine CO.cons rfl ?_
              | refine CO.nil ?_
              | refine CV.region callees ?_
              | refine ⟨(⟨by omega, by omega⟩ : inI64 _), ?_⟩
              | fail
            refine ⟨(j + 1, eo :: N, eo), (by repeat' first | exact trivial | refine ⟨rfl, ?_⟩ | refine ⟨slot_int (by (try simp only [Int.toNat_natCast]); omega), ?_⟩), (by (try dsimp only); omega), ?_⟩
            exact ⟨by omega, by rw [hmk, if_pos ⟨c1, .inr c3⟩, hN], hT7, by omega, fun c h1 h2 => (k7.get c (by omega) (fun e => h2 (htb1 c e))).trans (fy c h1 h2), fun h => by omega⟩
          · repeat' first
              | refine CO.cons rfl ?_
              | refine CO.nil ?_
              | refine CV.seq ?_
              | refine CV.region callees ?_
              | refine CV.cond ?_
              | refine CV.skip ?_
              | refine CO.consG rfl ?_
              | refine ⟨_, ints_len (by assumption), ?_⟩
              | refine ⟨_, ints_addr (by assumption) (by omega) (by omega), ?_⟩
              | refine ⟨_, ints_load (by assumption) (by omega) (by omega), ?_⟩
              | refine ⟨(⟨by omega, by omega⟩ : inI64 _), ?_⟩
              | (refine ⟨_, fS foY1 (by decide), ?_⟩)
              | (refine ⟨_, fS foY2 (by decide), ?_⟩)
              | (refine ⟨_, cell_load agIs1 hgy rfl, ?_⟩)
              | (refine ⟨fun _ => ?_, fun _ => ?_⟩ <;> first | (exfalso; omega) | skip)
              | fail
            refine ⟨(j + 1, N, eo), (by repeat' first | exact trivial | refine ⟨rfl, ?_⟩ | refine ⟨slot_int (by (try simp only [Int.toNat_natCast]); omega), ?_⟩), (by (try dsimp only); omega), ?_⟩
            exact ⟨by omega, by rw [hmk, if_neg (fun g => by rcases g.2 with g | g; omega; exact c3 g), hN], hTy, ly, fy, fun h => by omega⟩
      · repeat' first
          | refine CO.cons rfl ?_
          | refine CO.nil ?_
          | refine CV.seq ?_
          | refine CV.region callees ?_
          | refine CV.cond ?_
          | refine CV.skip ?_
          | refine CO.consG rfl ?_
          | refine ⟨_, ints_addr (by assumption) (by omega) (by omega), ?_⟩
          | refine ⟨_, ints_load (by assumption) (by omega) (by omega), ?_⟩
          | refine ⟨(⟨by omega, by omega⟩ : inI64 _), ?_⟩
          | (refine ⟨_, fS foY1 (by decide), ?_⟩)
          | (refine ⟨_, cell_load agIs1 hgy rfl, ?_⟩)
          | (refine ⟨fun _ => ?_, fun _ => ?_⟩ <;> first | (exfalso; omega) | skip)
          | fail
        refine ⟨(j + 1, N, eo), (by repeat' first | exact trivial | refine ⟨rfl, ?_⟩ | refine ⟨slot_int (by (try simp only [Int.toNat_natCast]); omega), ?_⟩), (by (try dsimp only); omega), ?_⟩
        exact ⟨by omega, by rw [hmk, if_neg (fun g => c1 g.1), hN], hTy, ly, fy, fun h => by omega⟩
    have hje : j = o.length + 1 := by omega
    repeat' first
      | refine CO.cons rfl ?_
      | refine CO.nil ?_
      | refine CV.seq ?_
      | refine CV.region callees ?_
      | refine CV.cond ?_
      | refine CV.exit ?_
      | refine ⟨_, ints_len (by assumption), ?_⟩
      | refine ⟨(⟨by omega, by omega⟩ : inI64 _), ?_⟩
      | (refine ⟨_, fS foY1 (by decide), ?_⟩)
      | (refine ⟨_, cell_load agIs1 hgy rfl, ?_⟩)
      | (refine ⟨fun _ => ?_, fun _ => ?_⟩ <;> first | (exfalso; omega) | skip)
      | fail
    refine ⟨(i + 1, N), (by repeat' first | exact trivial | refine ⟨rfl, ?_⟩ | refine ⟨slot_int (by (try simp only [Int.toNat_natCast]); omega), ?_⟩), (by (try dsimp only); omega), ?_⟩
    exact ⟨by omega, by rw [htk, ← hje]; exact hN, hTy, by omega, fun c h1 h2 => (fy c (by omega) h2).trans ((kx4.2 c (by omega)).trans (hfx c h1 h2))⟩
  have hie : i = S.length := by omega
  rw [hie, List.take_length] at hM
  repeat' first
    | refine CO.cons rfl ?_
    | refine CO.nil ?_
    | refine CV.seq ?_
    | refine CV.region callees ?_
    | refine CV.cond ?_
    | refine CV.exit ?_
    | refine CV.ret ?_
    | (refine ⟨_, sto_len hsx, ?_⟩)
    | (refine ⟨fun _ => ?_, fun _ => ?_⟩ <;> first | (exfalso; omega) | skip)
    | fail
  rw [← hM]
  exact ⟨by rw [← htv]; rfl, hTx.row, ⟨by have := kH2.1; omega, fun c hc => (hfx c (by have := kH2.1; omega) (by omega)).trans (kH2.2 c hc)⟩⟩
end Go.Proofs.Ytijimplcjaeneaa
