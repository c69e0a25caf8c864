
/- The reference's Days. -/
import Derived.Test.Ytijimplcjaeneaam2o
set_option linter.unusedVariables false
set_option linter.unusedSimpArgs false
namespace Go.Proofs.Ytijimplcjaeneaa
open Go.AI
theorem least_at {mk lo hi : Int} {ls : List Lk} {o : List Int} {j : Nat} (h : j < o.length + 1) : (leastL mk lo hi ls o)[j]! = (evsL mk lo hi ls o)[j]!.lo := by
  unfold leastL; rw [map_at (by rw [evs_len]; exact h)]
theorem most_at {mk lo hi : Int} {ls : List Lk} {o : List Int} {j : Nat} (h : j < o.length + 1) : (mostL mk lo hi ls o)[j]! = (evsL mk lo hi ls o)[j]!.hi := by
  unfold mostL; rw [map_at (by rw [evs_len]; exact h)]
theorem evs_kat {mk lo hi : Int} {ls : List Lk} {o : List Int} : (evsL mk lo hi ls o)[0]!.k = -1 ∧ ∀ j, j < o.length → (evsL mk lo hi ls o)[j + 1]!.k = o[j]! := by
  have h := evs_k (mk := mk) (lo := lo) (hi := hi) (ls := ls) (o := o)
  have key : ∀ j, j < o.length + 1 → (evsL mk lo hi ls o)[j]!.k = (-1 :: o)[j]! := fun j hj => by
    have := congrArg (fun l => l[j]!) h
    rw [← this]
    show _ = ((evsL mk lo hi ls o).map (·.k))[j]!
    rw [map_at (by rw [evs_len]; exact hj)]
  refine ⟨key 0 (by omega), fun j hj => ?_⟩
  rw [key (j + 1) (by omega)]
  rw [getElem!_pos _ _ (by simp; omega), List.getElem_cons_succ, getElem!_pos o j hj]
theorem putE_made {st : DSt} {e : Ev} (h : e.k = -1) : putE st e = ((min st.1.1 e.lo, max st.1.2 e.hi), st.2) := by unfold putE; rw [if_pos h]
theorem putE_link {st : DSt} {e : Ev} {z : Nat} (h : e.k = (z : Int)) : putE st e = (st.1, st.2.set z (min (st.2[z]!).1 e.lo, max (st.2[z]!).2 e.hi)) := by
  unfold putE; rw [if_neg (by omega), h, Int.toNat_natCast]
theorem own_keepFS {e : TypeId} {s : Nat} {H H' : Heap} {v : Value} {rs : List (List Value)} {B : Nat} (h : OwnS e s H v rs B) (hn : H.n ≤ H'.n) (hk : ∀ c, blkOf v = some c → H'.get c = H.get c) : OwnS e s H' v rs B := by
  refine ⟨h.1, ?_⟩
  rcases h.2 with h | ⟨b', rfl, h2, h3, h4⟩
  · exact .inl h
  · exact .inr ⟨b', rfl, h2, Nat.lt_of_lt_of_le h3 hn, by rw [hk b' rfl]; exact h4⟩
theorem sp_put {K : Heap → Prop} {B B0 i : Nat} {H : Heap} {v : Value} {ps : List (Int × Int)} {x y : Int} (h : OwnSp H v ps B0) (hB : B ≤ B0) (hi : i < ps.length)
    (hk : ∀ H', OwnSp H' v (ps.set i (x, y)) B0 → KeepBut v H H' → K H') : ∃ H' b, astore Try.prog sT H (Spv x y) (elemS v 2 i) = some (H', b) ∧ B ≤ b ∧ K H' := by
  have hrows := h.1
  have hj := spl_at hi
  rcases h.2 with ⟨_, h0⟩ | ⟨b0, rfl, h2, h3, h4⟩
  · rw [List.map_eq_nil_iff] at h0; subst h0; cases hi
  · have hfl := flat_len hrows
    rw [List.length_map] at hfl
    have he : elemS (.slice (some ⟨b0, 0, none⟩) (ps.map Spl).length 0) 2 i = .pointer (some ⟨b0, i * 2, none⟩) := by simp [elemS]
    have hset : splice (ps.map Spl).flatten (i * 2) [VI x, VI y] = ((ps.set i (x, y)).map Spl).flatten := by
      simp only [splice]
      have h5 := flat_set (q := 0) (w := VI x) hrows hj (by decide)
      rw [Nat.add_zero] at h5
      rw [h5]
      have hrows2 : ∀ r ∈ (ps.map Spl).set i ((Spl ps[i]!).set 0 (VI x)), r.length = 2 := fun r hr => by
        rcases List.mem_or_eq_of_mem_set hr with h | h
        · exact hrows r h
        · rw [h]; rfl
      rw [flat_set hrows2 (j := i) (q := 1) (r := (Spl ps[i]!).set 0 (VI x)) (by rw [List.getElem?_set_self (by rw [List.length_map]; exact hi)]) (by decide), List.set_set, List.map_set]
      rfl
    refine ⟨H.set b0 (.cells ((ps.set i (x, y)).map Spl).flatten sT 2), b0, ?_, by omega, hk _ ⟨spl_two, .inr ⟨b0, by simp, h2, h3, Heap.get_set_eq _ _ _⟩⟩ ⟨Nat.le_refl _, fun c hc hne => Heap.get_set_ne _ _ fun h => hne (by rw [h]; rfl)⟩⟩
    rw [he]
    have h1 : (Value.agg [VI x, VI y].toArray).cells = [VI x, VI y].toArray := rfl
    show astore Try.prog sT H (Value.agg [VI x, VI y].toArray) _ = _
    simp only [astore, h4, h1, szSp, spliceQ_eq]
    rw [if_pos ⟨by simp, by rw [hfl]; show i * 2 + 2 ≤ ps.length * 2; omega, rfl, by rfl⟩, hset]
set_option maxHeartbeats 32000000 in
set_option maxRecDepth 100000 in
theorem daysR_spec {B : Nat} {H : Heap} {mk lo hh : Int} {sv : Value} {ls : List Lk} (hB : B ≤ H.n) (hr : RowS 4 H sv (ls.map Lkl)) :
    CallB Try.prog B 25 [Chv mk lo hh sv] H (fun v H' => (∃ q a b ps, v = .tuple #[Spv a b, q, VI (chkC mk lo hh ls)] ∧ RowS 2 H' q (ps.map Spl) ∧ ((a, b), ps) = (if chkC mk lo hh ls = 0 then dayF mk lo hh ls (ordersL mk lo ls) else ((0, 0), []))) ∧ Keep H H') := by
  refine CV.enter callees false rfl Try.func25 rfl (by kernel_rfl) (Nat.le_of_ble_eq_true rfl) hB ?_
  repeat' first
    | refine CO.cons rfl ?_
    | refine CV.seq ?_
    | refine CV.region callees ?_
    | fail
  refine ⟨(by simp only [notTuple]), ?_⟩
  rw [boxCh hr.cells.1]
  generalize hs0 : Heap.new H _ = H0
  have hg0 := new_get hs0
  have k0 := new_keep hs0
  have n0 := new_n hs0
  obtain ⟨b0, hbn0⟩ : ∃ b, Heap.n H = b := ⟨_, rfl⟩
  rw [hbn0] at hg0 n0 ⊢
  repeat' first
    | refine CO.cons rfl ?_
    | refine CO.nil ?_
    | refine CV.seq ?_
    | refine CV.region callees ?_
    | (refine ⟨_, _, alSp, ?_⟩)
    | fail
  generalize hs1 : Heap.new H0 _ = H1
  have hg1 := new_get hs1
  have k1 := new_keep hs1
  have n1 := new_n hs1
  obtain ⟨b1, hbn1⟩ : ∃ b, Heap.n H0 = b := ⟨_, rfl⟩
  rw [hbn1] at hg1 n1 ⊢
  have k01 := k0.trans k1
  have hc1 := (k1.2 b0 (by omega)).trans hg0
  repeat' first
    | refine CO.cons rfl ?_
    | (refine ⟨_, ldCh hc1, ?_⟩)
    | fail
  refine (checkChainR_spec (by omega) (hr.keep k01)).mono ?_
  rintro v H2 ⟨rfl, k2⟩
  have l2 := k2.1
  have hz2 := (k2.2 b1 (by omega)).trans hg1
  have hc2 := (k2.2 b0 (by omega)).trans hc1
  by_cases hc : chkC mk lo hh ls = 0
  rotate_left
  · repeat' first
      | refine CO.cons rfl ?_
      | refine CO.nil ?_
      | refine CV.seq ?_
      | refine CV.region callees ?_
      | refine CV.cond ?_
      | (refine ⟨_, buSp0, ?_⟩)
      | (refine ⟨fun _ => ?_, fun _ => ?_⟩ <;> first | (exfalso; omega) | skip)
      | fail
    refine ⟨_, _, stSp hz2, by omega, ?_⟩
    generalize hs3 : Heap.set H2 b1 _ = H3
    have hg3 : H3.get b1 = some (.cells ([VI 0, VI 0]) sT 1) := set_get hs3
    have n3 := set_n hs3
    have o3 := set_old hs3
    repeat' first
      | refine CO.cons rfl ?_
      | refine CO.nil ?_
      | refine CV.ret ?_
      | fail
    rw [if_neg hc]
    exact ⟨_, ldSp hg3, rfl, ⟨nilS, 0, 0, [], rfl, ⟨fun r hr => by simp at hr, .inl ⟨rfl, rfl⟩⟩, rfl⟩, keep_put (k01.trans k2) (by omega) o3 n3⟩
  rw [if_pos hc, hc]
  have hk := chOk_of hc
  have hls := hk.ok
  have hn7 := hls.n
  have hlen := orders_len (mk := mk) (lo := lo) hls.n
  have hol : ∀ o ∈ ordersL mk lo ls, o.length = ls.length ∧ ∀ k ∈ o, 0 ≤ k ∧ k < ls.length := fun o ho => ⟨(orders_mem.1 ho).1, (orders_mem.1 ho).2.1.mem⟩
  repeat' first
    | refine CO.cons rfl ?_
    | refine CO.nil ?_
    | refine CV.seq ?_
    | refine CV.region callees ?_
    | refine CV.cond ?_
    | refine CV.skip ?_
    | (refine ⟨_, buSp, ?_⟩)
    | (refine ⟨_, _, alSp, ?_⟩)
    | (refine ⟨fun _ => ?_, fun _ => ?_⟩ <;> first | (exfalso; omega) | skip)
    | fail
  generalize hs6 : Heap.new H2 _ = H6
  have hg6 := new_get hs6
  have k6 := new_keep hs6
  have n6 := new_n hs6
  obtain ⟨b6, hbn6⟩ : ∃ b, Heap.n H2 = b := ⟨_, rfl⟩
  rw [hbn6] at hg6 n6 ⊢
  repeat' first
    | fail
  refine ⟨_, _, stSp hg6, by omega, ?_⟩
  generalize hs7 : Heap.set H6 b6 _ = H7
  have hg7 : H7.get b6 = some (.cells ([VI 100000, VI 0]) sT 1) := set_get hs7
  have n7 := set_n hs7
  have o7 := set_old hs7
  have k27 : Keep H2 H7 := keep_put k6 (by omega) o7 n7
  have hc7 := (k27.2 b0 (by omega)).trans hc2
  have hz7 := (k27.2 b1 (by omega)).trans hz2
  have hr7 := hr.keep ((k01.trans k2).trans k27)
  have l7 := k27.1
  repeat' first
    | refine CO.cons rfl ?_
    | refine CO.nil ?_
    | refine CV.seq ?_
    | refine CV.region callees ?_
    | refine CV.block ?_
    | fail
  refine CV.loopc ?_
  refine WCv.rounds callees false (α := Nat × Value) (fun (i, q) => [(1, .pointer (some ⟨b0, 0, none⟩)), (2, .pointer (some ⟨b1, 0, none⟩)), (6, .pointer (some ⟨b6, 0, none⟩)), (7, q), (8, VI i)]) (fun (i, q) Hz => i ≤ ls.length ∧ OwnSp Hz q (List.replicate i (100000, 0)) H7.n ∧ Keep H7 Hz) (fun (i, q) => ls.length - i) (0, nilS) (by repeat' first | exact trivial | refine ⟨rfl, ?_⟩ | refine ⟨slot_int (by (try simp only [Int.toNat_natCast]); omega), ?_⟩) ?_ ?_
  · exact ⟨by omega, ⟨fun r hr => by simp at hr, .inl ⟨rfl, rfl⟩⟩, Keep.refl _⟩
  rintro ⟨i, q⟩ Hx ⟨hi, hq, kx⟩ hBx
  have lx := kx.1
  have hcx := (kx.2 b0 (by omega)).trans hc7
  have hmx := (kx.2 b6 (by omega)).trans hg7
  have hrx := hr7.keep kx
  by_cases hi2 : i < ls.length
  · repeat' first
      | refine CO.cons rfl ?_
      | refine CO.nil ?_
      | refine CV.seq ?_
      | refine CV.region callees ?_
      | refine CV.cond ?_
      | refine CV.block ?_
      | refine CV.skip ?_
      | (refine ⟨_, fS foC2 (by decide), ?_⟩)
      | (refine ⟨_, cell_load agLs hcx rfl, ?_⟩)
      | (refine ⟨_, ls_len hrx, ?_⟩)
      | (refine ⟨_, ldSp hmx, ?_⟩)
      | (refine ⟨_, _, buSpR, ?_⟩)
      | (refine ⟨fun _ => ?_, fun _ => ?_⟩ <;> first | (exfalso; omega) | skip)
      | fail
    refine spPush (d := (100000, 0)) hq (by omega) (by omega) (by rw [List.length_replicate]; omega) ?_
    intro q' H8 hq8 kb8 hf8
    have hqa : ∀ c, blkOf q = some c → H7.n ≤ c := fun c hc => (hq.lt hc).1
    repeat' first
      | refine CO.cons rfl ?_
      | refine CO.nil ?_
      | refine CV.region callees ?_
      | refine ⟨(⟨by omega, by omega⟩ : inI64 _), ?_⟩
      | fail
    refine ⟨(i + 1, q'), (by repeat' first | exact trivial | refine ⟨rfl, ?_⟩ | refine ⟨slot_int (by (try simp only [Int.toNat_natCast]); omega), ?_⟩), (by (try dsimp only); omega), ?_⟩
    exact ⟨by omega, by rw [List.replicate_succ']; exact hq8, kb8.keep kx hqa⟩
  obtain rfl : i = ls.length := by omega
  repeat' first
    | refine CO.cons rfl ?_
    | refine CO.nil ?_
    | refine CV.seq ?_
    | refine CV.region callees ?_
    | refine CV.cond ?_
    | refine CV.exit ?_
    | (refine ⟨_, fS foC2 (by decide), ?_⟩)
    | (refine ⟨_, cell_load agLs hcx rfl, ?_⟩)
    | (refine ⟨_, ls_len hrx, ?_⟩)
    | (refine ⟨_, ldCh hcx, ?_⟩)
    | (refine ⟨fun _ => ?_, fun _ => ?_⟩ <;> first | (exfalso; omega) | skip)
    | fail
  refine (storiesR_spec (by omega) hrx hls hk.l0 hk.l1 hk.h1).mono ?_
  rintro v H9 ⟨⟨rs, hst⟩, k9⟩
  have l9 := k9.1
  have hq9 := OwnS.keep hq k9
  have hm9 := (k9.2 b6 (by omega)).trans hmx
  have hz9 := (k9.2 b1 (by omega)).trans ((kx.2 b1 (by omega)).trans hz7)
  have hqlt : ∀ c, blkOf q = some c → H7.n ≤ c ∧ c < Hx.n := fun c hc => hq.lt hc
  have kH9 : Keep H H9 := (((k01.trans k2).trans k27).trans kx).trans k9
  have hdF : dayF mk lo hh ls (ordersL mk lo ls) = (ordersL mk lo ls).foldl (dayO mk lo hh ls) ((100000, 0), List.replicate ls.length (100000, 0)) := rfl
  rw [hdF]
  generalize ordersL mk lo ls = S at *
  obtain ⟨nx, hnx⟩ : ∃ n, Hx.n = n := ⟨_, rfl⟩
  have hord : H.n ≤ b0 ∧ b0 < b1 ∧ b1 < b6 ∧ b6 < H7.n ∧ H7.n ≤ nx := ⟨by omega, by omega, by omega, by omega, by omega⟩
  clear hq hcx hmx hrx kx hi2 hi hr7 hc7 hz7 k27 hg7 hg6 k6
  repeat' first
    | refine CO.cons rfl ?_
    | refine CO.nil ?_
    | refine CV.seq ?_
    | refine CV.region callees ?_
    | refine CV.block ?_
    | fail
  refine CV.loopc ?_
  refine WCv.rounds callees false (α := Nat × DSt) (fun (i, st) => [(2, .pointer (some ⟨b1, 0, none⟩)), (6, .pointer (some ⟨b6, 0, none⟩)), (7, q), (9, v), (10, VI i)]) (fun (i, st) Hz => i ≤ S.length ∧ st = (S.take i).foldl (dayO mk lo hh ls) ((100000, 0), List.replicate ls.length (100000, 0)) ∧ st.2.length = ls.length ∧ Hz.get b6 = some (.cells (Spl st.1) sT 1) ∧ OwnSp Hz q st.2 H7.n ∧ H9.n ≤ Hz.n ∧ ∀ c, c < H9.n → c ≠ b6 → blkOf q ≠ some c → Hz.get c = H9.get c) (fun (i, st) => S.length - i) (0, ((100000, 0), List.replicate ls.length (100000, 0))) (by repeat' first | exact trivial | refine ⟨rfl, ?_⟩ | refine ⟨slot_int (by (try simp only [Int.toNat_natCast]); omega), ?_⟩) ?_ ?_
  · exact ⟨by omega, rfl, by simp, hm9, hq9, Nat.le_refl _, fun _ _ _ _ => rfl⟩
  rintro ⟨i, st⟩ Hy ⟨hi, hsi, hsl, hmy, hqy, ly, hfr⟩ hBy
  have hsto : ∀ {X : Heap}, H9.n ≤ X.n → (∀ c, c < H9.n → c ≠ b6 → blkOf q ≠ some c → X.get c = H9.get c) → StoRow mk lo hh ls X v rs S nx := fun {X} hn hf => by
    have hx : ∀ c, nx ≤ c → c < H9.n → X.get c = H9.get c := fun c h1 h2 => hf c h2 (by omega) (fun e => by have := (hqlt c e).2; omega)
    rw [hnx] at hst
    refine ⟨⟨hst.o.1, ?_⟩, hst.n, fun j hj => ?_⟩
    · rcases hst.o.2 with h | ⟨b', h1, h2, h3, h4⟩
      · exact .inl h
      · exact .inr ⟨b', h1, h2, by omega, by rw [hx b' h2 h3]; exact h4⟩
    · obtain ⟨a, b, c⟩ := hst.i j hj
      exact ⟨own_keepF a hn fun c hc => hx c (a.lt hc).1 (a.lt hc).2, own_keepF b hn fun c hc => hx c (b.lt hc).1 (b.lt hc).2, own_keepF c hn fun c' hc => hx c' (c.lt hc).1 (c.lt hc).2⟩
  have hsy := hsto ly hfr
  by_cases hi2 : i < S.length
  · obtain ⟨a1, a2, ⟨a3, a4⟩, ⟨a5, a6⟩, ⟨a7, a8⟩⟩ := sto_at hsy hi2
    have htk : S.take (i + 1) = S.take i ++ [S[i]!] := one_at hi2
    have hoi := hol S[i]! (by rw [getElem!_pos S i hi2]; exact List.getElem_mem _)
    obtain ⟨r1, r2, r3⟩ := hsy.i i hi2
    have hkat := evs_kat (mk := mk) (lo := lo) (hi := hh) (ls := ls) (o := S[i]!)
    have hEl := evs_len (mk := mk) (lo := lo) (hi := hh) (ls := ls) (o := S[i]!)
    have hla := fun j => least_at (mk := mk) (lo := lo) (hi := hh) (ls := ls) (o := S[i]!) (j := j)
    have hma := fun j => most_at (mk := mk) (lo := lo) (hi := hh) (ls := ls) (o := S[i]!) (j := j)
    have hll : (leastL mk lo hh ls S[i]!).length = S[i]!.length + 1 := by unfold leastL; rw [List.length_map, hEl]
    have hml : (mostL mk lo hh ls S[i]!).length = S[i]!.length + 1 := by unfold mostL; rw [List.length_map, hEl]
    have hnew : (S.take (i + 1)).foldl (dayO mk lo hh ls) ((100000, 0), List.replicate ls.length (100000, 0)) = (evsL mk lo hh ls S[i]!).foldl putE st := by rw [htk, List.foldl_append, ← hsi]; rfl
    generalize evsL mk lo hh ls S[i]! = E at *
    have i2 : Ints Hy rs[i]!.2.1 (leastL mk lo hh ls S[i]!) := r2.row
    have i3 : Ints Hy rs[i]!.2.2 (mostL mk lo hh ls S[i]!) := r3.row
    have e0 : (leastL mk lo hh ls S[i]!)[(0 : Int).toNat]! = E[0]!.lo := hla 0 (by omega)
    have e1 : (mostL mk lo hh ls S[i]!)[(0 : Int).toNat]! = E[0]!.hi := hma 0 (by omega)
    repeat' first
      | refine CO.cons rfl ?_
      | refine CO.nil ?_
      | refine CV.seq ?_
      | refine CV.region callees ?_
      | refine CV.cond ?_
      | refine CV.block ?_
      | refine CV.skip ?_
      | refine CG.cons rfl ?_
      | refine ⟨_, ints_addr (by assumption) (by omega) (by omega), ?_⟩
      | refine ⟨_, ints_load (by assumption) (by omega) (by omega), ?_⟩
      | refine CV.tl callees rfl [0, 1, 2, 3, 4, 5, 6, 7, 8, 9, 10, 11, 12, 13, 14, 15] (by kernel_rfl) ?_
      | (refine ⟨_, a2, ?_⟩)
      | (refine ⟨_, ldSp hmy, ?_⟩)
      | (refine ⟨_, a1, ?_⟩)
      | (refine ⟨_, a5, ?_⟩)
      | (refine ⟨_, a6, ?_⟩)
      | (refine ⟨_, a7, ?_⟩)
      | (refine ⟨_, a8, ?_⟩)
      | (refine ⟨fun _ => ?_, fun _ => ?_⟩ <;> first | (exfalso; omega) | skip)
      | fail
    rw [e0, e1]
    refine (wider_spec (Nat.le_refl _)).mono ?_
    rintro w HA ⟨rfl, kA⟩
    have lA := kA.1
    have hmA := (kA.2 b6 (by omega)).trans hmy
    repeat' first
      | refine CO.cons rfl ?_
      | refine CG.nil ?_
      | fail
    refine ⟨_, _, stSp hmA, by omega, ?_⟩
    generalize hsB : Heap.set HA b6 _ = HB
    have hgB : HB.get b6 = some (.cells ([VI (min st.1.1 E[0]!.lo), VI (max st.1.2 E[0]!.hi)]) sT 1) := set_get hsB
    have nB := set_n hsB
    have oB := set_old hsB
    have hp0 : putE st E[0]! = ((min st.1.1 E[0]!.lo, max st.1.2 E[0]!.hi), st.2) := putE_made hkat.1
    have ht1 : (E.take 1).foldl putE st = putE st E[0]! := by rw [show 1 = 0 + 1 from rfl, one_at (by omega)]; rfl
    have hqB : OwnSp HB q st.2 H7.n := own_keepFS (OwnS.keep hqy kA) (by omega) fun c hc => oB c (by have := hqlt c hc; omega)
    generalize ho : S[i]! = o at hoi r1 r2 r3 hkat hEl hla hma hll hml hnew i2 i3 e0 e1
    repeat' first
      | refine CO.cons rfl ?_
      | refine CO.nil ?_
      | refine CV.seq ?_
      | refine CV.region callees ?_
      | refine CV.block ?_
      | fail
    refine CV.loopc ?_
    refine WCv.rounds callees false (α := Nat × DSt) (fun (k, s2) => [(2, .pointer (some ⟨b1, 0, none⟩)), (6, .pointer (some ⟨b6, 0, none⟩)), (7, q), (9, v), (10, VI i), (11, VI k)]) (fun (k, s2) Hz => k ≤ o.length ∧ s2 = (E.take (k + 1)).foldl putE st ∧ s2.2.length = ls.length ∧ Hz.get b6 = some (.cells (Spl s2.1) sT 1) ∧ OwnSp Hz q s2.2 H7.n ∧ H9.n ≤ Hz.n ∧ ∀ c, c < H9.n → c ≠ b6 → blkOf q ≠ some c → Hz.get c = H9.get c) (fun (k, s2) => o.length - k) (0, ((min st.1.1 E[0]!.lo, max st.1.2 E[0]!.hi), st.2)) (by repeat' first | exact trivial | refine ⟨rfl, ?_⟩ | refine ⟨slot_int (by (try simp only [Int.toNat_natCast]); omega), ?_⟩) ?_ ?_
    · exact ⟨by omega, by rw [← hp0, ← ht1], hsl, hgB, hqB, by omega, fun c h1 h2 h3 => (oB c h2).trans ((kA.2 c (by omega)).trans (hfr c h1 h2 h3))⟩
    clear hmA hgB hqB hp0 ht1 a1 a2 a3 a4 a5 a6 a7 a8 r1 r2 r3 i2 i3 e0 e1 hsy
    rintro ⟨k, s2⟩ Hk ⟨hk1, hks, hkl, hmk, hqk, lk, hfk⟩ hBk
    have hsk := hsto lk hfk
    obtain ⟨a1, a2, ⟨a3, a4⟩, ⟨a5, a6⟩, ⟨a7, a8⟩⟩ := sto_at hsk hi2
    obtain ⟨r1, r2, r3⟩ := hsk.i i hi2
    rw [ho] at r1 r2 r3
    have i1 : Ints Hk rs[i]!.1 o := r1.row
    have i2 : Ints Hk rs[i]!.2.1 (leastL mk lo hh ls o) := r2.row
    have i3 : Ints Hk rs[i]!.2.2 (mostL mk lo hh ls o) := r3.row
    by_cases hk2 : k < o.length
    · have hok := hoi.2 o[k]! (by rw [getElem!_pos o k hk2]; exact List.getElem_mem _)
      obtain ⟨z, hz⟩ : ∃ z : Nat, o[k]! = (z : Int) := ⟨(o[k]!).toNat, by omega⟩
      have hzl : z < s2.2.length := by omega
      have hek : E[k + 1]!.k = (z : Int) := by rw [hkat.2 k hk2, hz]
      have hput := putE_link (st := s2) hek
      have htk2 : (E.take (k + 1 + 1)).foldl putE st = putE s2 E[k + 1]! := by rw [one_at (by omega), List.foldl_append, ← hks]; rfl
      have hqr := hqk.row
      have hadr : aindexAddr Try.prog sS q (.int .i64 o[(k : Int).toNat]!) = some (elemS q 2 z) := by
        show aindexAddr Try.prog sS q (.int .i64 o[k]!) = _
        rw [hz]; exact sp_addr hqr (by omega) (by omega)
      have hlsp := sp_loadR hqr hzl
      have e0 : (leastL mk lo hh ls o)[((k : Int) + 1).toNat]! = E[k + 1]!.lo := by rw [show ((k : Int) + 1).toNat = k + 1 by omega]; exact hla (k + 1) (by omega)
      have e1 : (mostL mk lo hh ls o)[((k : Int) + 1).toNat]! = E[k + 1]!.hi := by rw [show ((k : Int) + 1).toNat = k + 1 by omega]; exact hma (k + 1) (by omega)
      repeat' first
        | refine CO.cons rfl ?_
        | refine CO.nil ?_
        | refine CV.seq ?_
        | refine CV.region callees ?_
        | refine CV.cond ?_
        | refine CV.block ?_
        | refine CV.skip ?_
        | refine CG.cons rfl ?_
        | refine ⟨_, ints_len (by assumption), ?_⟩
        | refine ⟨_, ints_addr (by assumption) (by omega) (by omega), ?_⟩
        | refine ⟨_, ints_load (by assumption) (by omega) (by omega), ?_⟩
        | refine ⟨(⟨by omega, by omega⟩ : inI64 _), ?_⟩
        | refine CV.tl callees rfl [0, 1, 2, 3, 4, 5, 6, 7, 8, 9, 10, 11, 12, 13, 14, 15, 16, 17, 18, 19, 20, 21, 22, 23, 24, 25, 26, 27, 28, 29, 30, 31, 32, 33, 34, 35, 36, 37, 38, 39] (by kernel_rfl) ?_
        | (refine ⟨_, a1, ?_⟩)
        | (refine ⟨_, a3, ?_⟩)
        | (refine ⟨_, a4, ?_⟩)
        | (refine ⟨_, a5, ?_⟩)
        | (refine ⟨_, a6, ?_⟩)
        | (refine ⟨_, a7, ?_⟩)
        | (refine ⟨_, a8, ?_⟩)
        | (refine ⟨_, hadr, ?_⟩)
        | (refine ⟨_, hlsp, ?_⟩)
        | (refine ⟨fun _ => ?_, fun _ => ?_⟩ <;> first | (exfalso; omega) | skip)
        | fail
      rw [e0, e1]
      refine (wider_spec (Nat.le_refl _)).mono ?_
      rintro w HC ⟨rfl, kC⟩
      have lC := kC.1
      have hqC := OwnS.keep hqk kC
      repeat' first
        | refine CO.cons rfl ?_
        | refine CG.cons rfl ?_
        | refine CG.nil ?_
        | (refine ⟨_, hadr, ?_⟩)
        | fail
      refine sp_put hqC (by omega) hzl ?_
      intro HD hqD kbD
      have lD := kbD.le
      repeat' first
        | refine CO.cons rfl ?_
        | refine CO.nil ?_
        | refine CV.region callees ?_
        | refine ⟨(⟨by omega, by omega⟩ : inI64 _), ?_⟩
        | fail
      refine ⟨(k + 1, putE s2 E[k + 1]!), (by repeat' first | exact trivial | refine ⟨rfl, ?_⟩ | refine ⟨slot_int (by (try simp only [Int.toNat_natCast]); omega), ?_⟩), (by (try dsimp only); omega), ?_⟩
      refine ⟨by omega, htk2.symm, by rw [putE_len]; exact hkl, by rw [hput]; exact (kbD.get b6 (by omega) (fun e => by have := hqlt _ e; omega)).trans ((kC.2 b6 (by omega)).trans hmk), by rw [hput]; exact hqD, by omega, fun c h1 h2 h3 => (kbD.get c (by omega) h3).trans ((kC.2 c (by omega)).trans (hfk c h1 h2 h3))⟩
    have hke : k = o.length := by omega
    rw [hke, ← hEl, List.take_length] at hks
    repeat' first
      | refine CO.cons rfl ?_
      | refine CO.nil ?_
      | refine CV.seq ?_
      | refine CV.region callees ?_
      | refine CV.cond ?_
      | refine CV.exit ?_
      | refine ⟨_, ints_len (by assumption), ?_⟩
      | refine ⟨(⟨by omega, by omega⟩ : inI64 _), ?_⟩
      | (refine ⟨_, a1, ?_⟩)
      | (refine ⟨_, a3, ?_⟩)
      | (refine ⟨_, a4, ?_⟩)
      | (refine ⟨fun _ => ?_, fun _ => ?_⟩ <;> first | (exfalso; omega) | skip)
      | fail
    refine ⟨(i + 1, s2), (by repeat' first | exact trivial | refine ⟨rfl, ?_⟩ | refine ⟨slot_int (by (try simp only [Int.toNat_natCast]); omega), ?_⟩), (by (try dsimp only); omega), ?_⟩
    exact ⟨by omega, by rw [hnew]; exact hks, hkl, hmk, hqk, lk, hfk⟩
  have hie : i = S.length := by omega
  rw [hie, List.take_length] at hsi
  have hzy := (hfr b1 (by omega) (by omega) (fun e => by have := hqlt _ e; omega)).trans hz9
  repeat' first
    | refine CO.cons rfl ?_
    | refine CO.nil ?_
    | refine CV.seq ?_
    | refine CV.region callees ?_
    | refine CV.cond ?_
    | refine CV.exit ?_
    | (refine ⟨_, sto_len hsy, ?_⟩)
    | (refine ⟨_, ldSp hmy, ?_⟩)
    | (refine ⟨fun _ => ?_, fun _ => ?_⟩ <;> first | (exfalso; omega) | skip)
    | fail
  refine ⟨_, _, stSp hzy, by omega, ?_⟩
  generalize hs8 : Heap.set Hy b1 _ = H8
  have hg8 : H8.get b1 = some (.cells ([VI st.1.1, VI st.1.2]) sT 1) := set_get hs8
  have n8 := set_n hs8
  have o8 := set_old hs8
  repeat' first
    | refine CO.cons rfl ?_
    | refine CO.nil ?_
    | refine CV.ret ?_
    | fail
  have hq8 : OwnSp H8 q st.2 H7.n := own_keepFS hqy (by omega) fun c hc => o8 c (by have := hqlt c hc; omega)
  have kY : Keep H Hy := ⟨by have := kH9.1; omega, fun c hc => (hfr c (by have := kH9.1; omega) (by omega) (fun e => by have := hqlt _ e; omega)).trans (kH9.2 c hc)⟩
  exact ⟨_, ldSp hg8, by simp only [List.all_cons, List.all_nil, OwnS.notTuple hq8]; rfl, ⟨q, st.1.1, st.1.2, st.2, rfl, hq8.row, hsi⟩, keep_put kY (by omega) o8 n8⟩
end Go.Proofs.Ytijimplcjaeneaa
