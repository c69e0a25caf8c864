
/- When each coal begins: one list alone, in whichever order a map's entries come. -/
import Derived.Test.YtglkphjjinmgmaaW4h
set_option linter.unusedVariables false
set_option linter.unusedSimpArgs false
namespace Go.Proofs.Ytglkphjjinmgmaa
open Go.AI
theorem slot_intW {k : IntKind} {a b : Int} (h : a = b) : Value.int k a = Value.int k b := by rw [h]
theorem rangeT {H : Heap} {r : Nat} {es : List (Value × Value)} (hg : H.get r = some (.map es)) : arange Try.prog H 143 (.map (some r)) = some (.pointer (some ⟨H.n, 0, none⟩), H.new (.iter (some r) es.length [] es.length), H.n) := by
  simp only [arange, unTM, hg]
theorem entryT {H : Heap} {b r i : Nat} {seen : List Nat} {W : Int × Int → Int} {M : List (Int × Int)} (hb : H.get b = some (.iter (some r) (ents W M).length (seen ++ [i]) (ents W M).length)) (hr : H.get r = some (.map (ents W M))) (hi : i < M.length) : aentry H (.pointer (some ⟨b, 0, none⟩)) = some (.tuple #[Hv M[i]!, VJ (W M[i]!)]) := by
  have he : (ents W M)[i]? = some (Hv M[i]!, VJ (W M[i]!)) := by
    rw [List.getElem?_map, List.getElem?_eq_getElem hi, getElem!_pos M i hi]; rfl
  simp only [aentry, hb, hr, he, List.getLast?_append, List.getLast?_singleton, Option.some_or, and_self, if_true, notTuple]
/-- The cells of a row of one's own. -/
theorem own_cells {e : TypeId} {H : Heap} {b n B : Nat} {vs : List Value} (h : Own e H (.slice (some ⟨b, 0, none⟩) n 0) vs B) : H.get b = some (.cells vs e 2) ∧ n = vs.length := by
  rcases h with ⟨h, _⟩ | ⟨b', h, _, _, h4⟩
  · cases h
  · cases h; exact ⟨h4, rfl⟩
theorem map_setI {l : List Int} {i : Nat} {x : Int} : (l.map VJ).set i (VJ x) = (l.set i x).map VJ := by rw [List.map_set]
theorem putW_ask {H : Heap} {K : Heap → Prop} {B B0 : Nat} {x : Value} {y : Int} {l : List Int} {i : Nat} (hx : Own 3 H x (l.map VJ) B0) (hB : B ≤ B0) (hi : i < l.length) (hk : ∀ H', Own 3 H' x ((l.set i y).map VJ) B0 → KeepBut x H H' → K H') :
    ∃ H' b, astore Try.prog 3 H (VJ y) (elemAt x i) = some (H', b) ∧ B ≤ b ∧ K H' :=
  store_ask sz3 hx hB (by rw [List.length_map]; exact hi) rfl fun H' h1 h2 => hk H' (by rw [← map_setI]; exact h1) h2
set_option maxHeartbeats 4000000 in
set_option maxRecDepth 100000 in
theorem beginning_run {Bw : Nat} {H : Heap} {cv tv : Value} {cs : List Co} {ts : List (Int × Int)} {e : Int} {Bs : List Int} (hc : RowS 7 H cv (cs.map Col)) (ht : RowS 2 H tv (ts.map Hl)) (hf : FOk cs ts) (he : e = 0 ∨ e = 1) (hb : IsBeg e cs ts Bs) :
    argsK [Fv cv tv, VJ e] 0 .leaf fun L => XV Try.prog Bw Try.f92.ntmps H.n (Try.f92.body.getD .skip) L H fun e L' Hx => (e = .normal ∨ e = .ret) ∧ resK Try.prog L' Hx Try.f92.results.toList fun rs => ∃ b, rs = [.slice (some ⟨b, 0, none⟩) cs.length 0] ∧ H.n ≤ b ∧ Hx.get b = some (.cells (Bs.map VJ) 3 2) := by
  have hn12 := hf.n
  have hm40 := hf.m
  have hBl := hb.len
  repeat' first
    | refine CO.cons rfl ?_
    | refine XV.seq ?_
    | refine XV.of (N := 107) (wr := false) (sure1 _) (CV.region callees1 ?_)
    | fail
  refine ⟨(by simp only [notTuple]), ?_⟩
  rw [allocFv hc.cells.1 ht.cells.1]
  generalize hs0 : H.new _ = H0
  have hg0 := new_get hs0
  have k0 := new_keep hs0
  have n0 := new_n hs0
  obtain ⟨br, hbr⟩ : ∃ br, H.n = br := ⟨_, rfl⟩
  rw [hbr] at hg0 n0 ⊢
  have hc0 := hc.keep k0
  repeat' first
    | refine CO.cons rfl ?_
    | refine CO.nil ?_
    | refine XV.seq ?_
    | refine XV.of (N := 107) (wr := false) (sure1 _) (CV.region callees1 ?_)
    | (refine ⟨_, fS foF0 (by decide), ?_⟩)
    | (refine ⟨_, cell_loadW ag25 hg0 rfl, ?_⟩)
    | (refine ⟨_, cs_len hc0, ?_⟩)
    | fail
  refine ⟨_, _, make_row un22 one3 (by omega) cs.length (by omega), ?_⟩
  generalize hs1 : H0.new _ = H1
  have hg1 := new_get hs1
  have k1 := new_keep hs1
  have n1 := new_n hs1
  obtain ⟨bb, hbb⟩ : ∃ bb, H0.n = bb := ⟨_, rfl⟩
  rw [hbb] at hg1 n1 ⊢
  have k01 := k0.trans k1
  have hr1 : H1.get br = some (.cells (Fl cv tv) 25 1) := by rw [k1.2 br (by omega)]; exact hg0
  have hc1 := hc.keep k01
  have ho1 : Own 3 H1 (.slice (some ⟨bb, 0, none⟩) cs.length 0) ((List.replicate cs.length (0 : Int)).map VJ) bb := .inr ⟨bb, by simp, Nat.le_refl _, by omega, by rw [hg1]; simp⟩
  obtain ⟨sv, hsv⟩ : ∃ sv, Value.slice (some ⟨bb, 0, none⟩) cs.length 0 = sv := ⟨_, rfl⟩
  have hblk : blkOf sv = some bb := by rw [← hsv]; rfl
  rw [hsv] at ho1 ⊢
  repeat' first
    | refine CO.cons rfl ?_
    | refine CO.nil ?_
    | refine XV.seq ?_
    | refine XV.of (N := 107) (wr := false) (sure1 _) (CV.region callees1 ?_)
    | (refine ⟨_, fS foF0 (by decide), ?_⟩)
    | (refine ⟨_, cell_loadW ag25 hr1 rfl, ?_⟩)
    | (refine ⟨_, cs_len hc1, ?_⟩)
    | fail
  refine XV.of (N := 80) (wr := false) (sure1 _) ?_
  repeat' first
    | refine CV.block ?_
    | fail
  refine CV.loopc ?_
  refine WCv.rounds callees1 false (α := List Int × Nat) (fun (Z, i) => [(1, VJ e), (2, .pointer (some ⟨br, 0, none⟩)), (5, sv), (16, cv), (17, VJ cs.length), (18, VJ i)]) (fun (Z, i) Hz => i ≤ cs.length ∧ Z.length = cs.length ∧ (∀ j : Nat, j < i → Z[j]! = (initB cs)[j]!) ∧ (∀ j : Nat, i ≤ j → j < cs.length → Z[j]! = 0) ∧ Hz.get br = some (.cells (Fl cv tv) 25 1) ∧ Own 3 Hz sv (Z.map VJ) bb ∧ Keep H Hz ∧ bb < Hz.n) (fun (Z, i) => cs.length - i) (List.replicate cs.length (0 : Int), 0) (by repeat' first | exact trivial | refine ⟨rfl, ?_⟩ | refine ⟨slot_int (by (try simp only [Int.toNat_natCast]); omega), ?_⟩) ?_ ?_
  · refine ⟨by omega, by simp, fun j hj => by omega, fun j _ hj => ?_, hr1, ho1, k01, by omega⟩
    rw [getElem!_pos _ j (by simpa using hj)]; simp
  clear hr1 hc1 ho1
  rintro ⟨Z, i⟩ Hx ⟨hi, hZl, hZ1, hZ2, hrx, hox, kx, lx⟩ hBx
  have hcx := hc.keep kx
  by_cases hi2 : i < cs.length
  · repeat' first
      | refine CO.cons rfl ?_
      | refine CO.nil ?_
      | refine CV.seq ?_
      | refine CV.region callees1 ?_
      | refine CV.cond ?_
      | refine CV.block ?_
      | refine CV.skip ?_
      | (refine ⟨_, cs_addr hcx (by omega) (by omega), ?_⟩)
      | (refine ⟨_, cs_load hcx hi2, ?_⟩)
      | (refine ⟨_, _, al48, ?_⟩)
      | (refine ⟨fun _ => ?_, fun _ => ?_⟩ <;> first | (exfalso; omega) | skip)
      | fail
    generalize hs2 : Hx.new _ = H2
    have hg2 := new_get hs2
    have k2 := new_keep hs2
    have n2 := new_n hs2
    obtain ⟨bc, hbc⟩ : ∃ bc, Hx.n = bc := ⟨_, rfl⟩
    rw [hbc] at hg2 n2 ⊢
    repeat' first
      | fail
    refine ⟨_, _, st48 hg2, by omega, ?_⟩
    generalize hs3 : Heap.set H2 bc _ = H3
    have hg3 : H3.get bc = some (.cells (Col cs[i]!) 32 1) := set_get hs3
    have n3 := set_n hs3
    have o3 := set_old hs3
    have k3 : Keep Hx H3 := keep_putW k2 (by omega) o3 n3
    have hr3 : H3.get br = some (.cells (Fl cv tv) 25 1) := by rw [k3.2 br (by omega)]; exact hrx
    have ho3 := hox.keep k3
    have kx3 := kx.trans k3
    have hini := initB_at (cs := cs) hi2
    cases hl : cs[i]!.lt with
    | true =>
      repeat' first
        | refine CO.cons rfl ?_
        | refine CO.nil ?_
        | refine CV.seq ?_
        | refine CV.region callees1 ?_
        | refine CV.cond ?_
        | refine CV.skip ?_
        | refine ⟨(⟨by omega, by omega⟩ : inI64 _), ?_⟩
        | (refine ⟨_, fS foC3 (by decide), ?_⟩)
        | (refine ⟨_, cell_loadW ag4 hg3 (show _ = some (Value.bool true) by rw [← hl]; rfl), ?_⟩)
        | fail
      refine ⟨(Z, i + 1), (by repeat' first | exact trivial | refine ⟨rfl, ?_⟩ | refine ⟨slot_int (by (try simp only [Int.toNat_natCast]); omega), ?_⟩), (by (try dsimp only); omega), ?_⟩
      refine ⟨by omega, hZl, fun j hj => ?_, fun j h1 h2 => hZ2 j (by omega) h2, hr3, ho3, kx3, by omega⟩
      by_cases hji : j = i
      · subst hji; rw [hZ2 j (by omega) hi2, hini, hl]; rfl
      · exact hZ1 j (by omega)
    | false =>
      have hI3 : Ints H3 sv Z := ho3.row
      repeat' first
        | refine CO.cons rfl ?_
        | refine CO.nil ?_
        | refine CV.seq ?_
        | refine CV.region callees1 ?_
        | refine CV.cond ?_
        | refine ⟨_, ints_addr (by assumption) (by omega) (by omega), ?_⟩
        | (refine ⟨_, fS foC3 (by decide), ?_⟩)
        | (refine ⟨_, cell_loadW ag4 hg3 (show _ = some (Value.bool false) by rw [← hl]; rfl), ?_⟩)
        | fail
      refine putW_ask ho3 (by omega) (by omega) ?_
      intro H4 ho4 kb4
      have l4 := kb4.le
      have hr4 : H4.get br = some (.cells (Fl cv tv) 25 1) := by rw [kb4.get br (by omega) (by rw [hblk]; intro h; cases h; omega)]; exact hr3
      have kx4 : Keep H H4 := kb4.keep kx3 fun c hc => by rw [hblk] at hc; cases hc; omega
      rw [Int.toNat_natCast] at ho4
      repeat' first
        | refine CO.cons rfl ?_
        | refine CO.nil ?_
        | refine CV.region callees1 ?_
        | refine ⟨(⟨by omega, by omega⟩ : inI64 _), ?_⟩
        | fail
      refine ⟨(Z.set i 1000000, i + 1), (by repeat' first | exact trivial | refine ⟨rfl, ?_⟩ | refine ⟨slot_int (by (try simp only [Int.toNat_natCast]); omega), ?_⟩), (by (try dsimp only); omega), ?_⟩
      refine ⟨by omega, by rw [List.length_set]; exact hZl, fun j hj => ?_, fun j h1 h2 => ?_, hr4, ho4, kx4, by omega⟩
      · rw [getS (by omega)]
        by_cases hji : i = j
        · subst hji; rw [if_pos rfl, hini, hl]; rfl
        · rw [if_neg hji]; exact hZ1 j (by omega)
      · rw [getS (by omega), if_neg (by omega)]; exact hZ2 j (by omega) h2
  have hie : i = cs.length := by omega
  have hZe : Z = initB cs := by
    apply List.ext_getElem (by rw [hZl]; simp [initB])
    intro j h1 h2
    have := hZ1 j (by omega)
    rw [getElem!_pos Z j h1, getElem!_pos (initB cs) j h2] at this
    exact this
  subst hZe
  have htx := ht.keep kx
  repeat' first
    | refine CO.cons rfl ?_
    | refine CO.nil ?_
    | refine CV.seq ?_
    | refine CV.region callees1 ?_
    | refine CV.cond ?_
    | refine CV.exit ?_
    | (refine ⟨fun _ => ?_, fun _ => ?_⟩ <;> first | (exfalso; omega) | skip)
    | fail
  repeat' first
    | refine CO.cons rfl ?_
    | refine XV.seq ?_
    | refine XV.of (N := 107) (wr := false) (sure1 _) (CV.region callees1 ?_)
    | (refine ⟨_, agg_load ag28 sz28 hrx (Nat.le_refl _), ?_⟩)
    | fail
  refine (catching_spec (cs := cs) (ts := ts) (by omega) hcx htx hf he).mono ?_
  rintro r H5 ⟨⟨M, bm, rfl, hbm, hbm5, hgm5, hM⟩, k5⟩
  have l5 := k5.1
  have hr5 : H5.get br = some (.cells (Fl cv tv) 25 1) := by rw [k5.2 br (by omega)]; exact hrx
  have ho5 := hox.keep k5
  have kx5 := kx.trans k5
  have hc5 := hc.keep kx5
  repeat' first
    | refine CO.cons rfl ?_
    | refine CO.nil ?_
    | refine XV.seq ?_
    | refine XV.of (N := 107) (wr := false) (sure1 _) (CV.region callees1 ?_)
    | (refine ⟨_, fS foF0 (by decide), ?_⟩)
    | (refine ⟨_, cell_loadW ag25 hr5 rfl, ?_⟩)
    | (refine ⟨_, cs_len hc5, ?_⟩)
    | fail
  refine XV.block ?_
  refine XV.rounds (α := List Int × Nat) (fun (B1, i) => [(5, sv), (8, .map (some bm)), (35, VJ cs.length), (36, VJ i)]) (fun (B1, i) Hz => i ≤ cs.length ∧ Lev cs Bs i B1 ∧ Hz.get bm = some (.map (ents (tm e cs) M)) ∧ Own 3 Hz sv (B1.map VJ) bb ∧ Keep H Hz ∧ bm < Hz.n ∧ bb < Hz.n) (fun (B1, i) => cs.length - i) (initB cs, 0) (by repeat' first | exact trivial | refine ⟨rfl, ?_⟩ | refine ⟨slot_intW (by (try simp only [Int.toNat_natCast]); omega), ?_⟩) ?_ ?_
  · exact ⟨by omega, Lev.init hf hb, hgm5, ho5, kx5, hbm5, by omega⟩
  clear hgm5 ho5 kx5 hc5 hr5 kx hox hrx hcx htx
  rintro ⟨B1, i⟩ Hx ⟨hi, hlev, hgm, ho, kx, lm, lb⟩ hBx
  by_cases hi2 : i < cs.length
  · repeat' first
      | refine CO.cons rfl ?_
      | refine CO.nil ?_
      | refine XV.seq ?_
      | refine XV.cond ?_
      | refine XV.of (N := 107) (wr := false) (sure1 _) (CV.region callees1 ?_)
      | refine XV.of (N := 107) (wr := false) (sure1 _) (CV.skip ?_)
      | (refine ⟨fun _ => ?_, fun _ => ?_⟩ <;> first | (exfalso; omega) | skip)
      | fail
    refine XV.block ?_
    repeat' first
      | refine CO.cons rfl ?_
      | refine CO.nil ?_
      | refine XV.seq ?_
      | refine XV.of (N := 107) (wr := false) (sure1 _) (CV.region callees1 ?_)
      | (refine ⟨_, _, rangeT hgm, by (show _ ≤ Hx.n + 1); omega, ?_⟩)
      | fail
    generalize hs2 : Hx.new _ = H2
    have hg2 := new_get hs2
    have k2 := new_keep hs2
    have n2 := new_n hs2
    obtain ⟨bi, hbi⟩ : ∃ bi, Hx.n = bi := ⟨_, rfl⟩
    rw [hbi] at hg2 n2 ⊢
    have hgm2 : H2.get bm = some (.map (ents (tm e cs) M)) := by rw [k2.2 bm (by omega)]; exact hgm
    have ho2 := ho.keep k2
    have kx2 := kx.trans k2
    repeat' first
      | fail
    refine XV.block ?_
    refine XV.rounds (α := List Nat × List Int) (fun (seen, B') => [(5, sv), (8, .map (some bm)), (35, VJ cs.length), (36, VJ i), (39, .pointer (some ⟨bi, 0, none⟩))]) (fun (seen, B') Hz => Mid e cs Bs B1 M seen B' ∧ Hz.get bi = some (.iter (some bm) (ents (tm e cs) M).length seen (ents (tm e cs) M).length) ∧ Hz.get bm = some (.map (ents (tm e cs) M)) ∧ Own 3 Hz sv (B'.map VJ) bb ∧ Keep H Hz ∧ bi < Hz.n) (fun (seen, B') => leftN M.length seen) ([], B1) (by repeat' first | exact trivial | refine ⟨rfl, ?_⟩ | refine ⟨slot_intW (by (try simp only [Int.toNat_natCast]); omega), ?_⟩) ?_ ?_
    · exact ⟨hlev.mid, hg2, hgm2, ho2, kx2, by omega⟩
    clear hgm ho kx hg2 hgm2 ho2 kx2
    rintro ⟨seen, B'⟩ Hy ⟨hmid, hgi, hgm, hoy, ky, ly⟩ hBy
    refine XV.seq ?_
    refine XV.next rfl rfl rfl rfl rfl rfl ?_
    refine ⟨bi, bm, ents (tm e cs) M, seen, rfl, by omega, hgi, hgm, fun kv hkv => by obtain ⟨p, _, rfl⟩ := List.mem_map.1 hkv; rfl, fun hall => ?_, fun k kv hkv hni => ?_⟩
    · repeat' first
        | refine CO.cons rfl ?_
        | refine CO.nil ?_
        | refine XV.seq ?_
        | refine XV.cond ?_
        | refine XV.of (N := 107) (wr := false) (sure1 _) (CV.region callees1 ?_)
        | refine XV.of (N := 107) (wr := false) (sure1 _) (CV.exit ?_)
        | refine ⟨(⟨by omega, by omega⟩ : inI64 _), ?_⟩
        | fail
      refine ⟨(B', i + 1), (by repeat' first | exact trivial | refine ⟨rfl, ?_⟩ | refine ⟨slot_int (by (try simp only [Int.toNat_natCast]); omega), ?_⟩), (by (try dsimp only); omega), ?_⟩
      exact ⟨by omega, hmid.end_ hf hb hM hlev (fun k hk => hall k (by simpa using hk)), hgm, hoy, ky, by omega, by omega⟩
    · have hk : k < M.length := by
        have := (List.getElem?_eq_some_iff.1 hkv).1
        simpa using this
      obtain ⟨w, hw⟩ : ∃ w, M[k]! = w := ⟨_, rfl⟩
      have hwM : w ∈ M := by rw [← hw, getElem!_pos M k hk]; exact List.getElem_mem hk
      have harc := (hM w).1 hwM
      have hwb := harc.ok hf
      have hcw : 1 ≤ tm e cs w ∧ tm e cs w ≤ 300 := ca_pos (e := e) hf hwb.2.1.1 hwb.2.1.2
      have hml := hmid.len
      have hA := hmid.bd w.1.toNat (by omega)
      have hA1 := hlev.bd w.1.toNat (by omega)
      have hA0 := hb.lo w.1.toNat (by omega)
      generalize hs3 : Heap.set Hy bi _ = H3
      have hg3 : H3.get bi = some (.iter (some bm) (ents (tm e cs) M).length (seen ++ [k]) (ents (tm e cs) M).length) := set_get hs3
      have n3 := set_n hs3
      have o3 := set_old hs3
      have hgm3 : H3.get bm = some (.map (ents (tm e cs) M)) := by rw [o3 bm (by omega)]; exact hgm
      have ho3 : Own 3 H3 sv (B'.map VJ) bb := by
        rcases hoy with h | ⟨b', h1, h2, h3, h4⟩
        · exact .inl h
        · refine .inr ⟨b', h1, h2, by omega, ?_⟩
          have : b' = bb := by
            rw [← hsv] at h1
            simp only [Value.slice.injEq, Option.some.injEq, Addr.mk.injEq, and_true] at h1
            exact h1.1.symm
          rw [o3 b' (by omega)]; exact h4
      have ky3 : Keep H H3 := keep_putW ky (by omega) o3 n3
      have hent := entryT hg3 hgm3 hk
      rw [hw] at hent
      repeat' first
        | refine XV.seq ?_
        | refine XV.cond ?_
        | refine XV.of (N := 107) (wr := false) (sure1 _) (CV.skip ?_)
        | fail
      refine XV.block ?_
      repeat' first
        | refine CO.cons rfl ?_
        | refine XV.seq ?_
        | refine XV.of (N := 107) (wr := false) (sure1 _) (CV.region callees1 ?_)
        | (refine ⟨_, hent, ?_⟩)
        | (refine ⟨_, _, al82, ?_⟩)
        | fail
      generalize hs4 : H3.new _ = H4
      have hg4 := new_get hs4
      have k4 := new_keep hs4
      have n4 := new_n hs4
      obtain ⟨bw, hbw⟩ : ∃ bw, H3.n = bw := ⟨_, rfl⟩
      rw [hbw] at hg4 n4 ⊢
      repeat' first
        | fail
      refine ⟨_, _, st82 hg4, by omega, ?_⟩
      generalize hs5 : Heap.set H4 bw _ = H5
      have hg5 : H5.get bw = some (.cells (Hl w) 99 1) := set_get hs5
      have n5 := set_n hs5
      have o5 := set_old hs5
      have k5 : Keep H3 H5 := keep_putW k4 (by omega) o5 n5
      have ho5 := ho3.keep k5
      have hI5 : Ints H5 sv B' := ho5.row
      repeat' first
        | refine CO.cons rfl ?_
        | refine CO.nil ?_
        | refine XV.of (N := 107) (wr := false) (sure1 _) (CV.draw callees1 (by decide +kernel) ?_)
        | refine CH.cons rfl ?_
        | refine CH.nil ?_
        | refine ⟨_, ints_addr (by assumption) (by omega) (by omega), ?_⟩
        | refine ⟨_, ints_load (by assumption) (by omega) (by omega), ?_⟩
        | refine ⟨(⟨by omega, by omega⟩ : inI64 _), ?_⟩
        | refine ⟨_, fun tm ha => step1_min rfl (ev_tmp ha rfl) (ev_tmp ha rfl), ?_⟩
        | (refine ⟨_, fS foT0 (by decide), ?_⟩)
        | (refine ⟨_, fS foT1 (by decide), ?_⟩)
        | (refine ⟨_, cell_loadW ag3 hg5 rfl, ?_⟩)
        | fail
      refine putW_ask ho5 (by omega) (by omega) ?_
      intro H6 ho6 kb6
      have l6 := kb6.le
      have hgm6 : H6.get bm = some (.map (ents (tm e cs) M)) := by rw [kb6.get bm (by omega) (by rw [hblk]; intro h; cases h; omega), k5.2 bm (by omega)]; exact hgm3
      have hgi6 : H6.get bi = some (.iter (some bm) (ents (tm e cs) M).length (seen ++ [k]) (ents (tm e cs) M).length) := by rw [kb6.get bi (by omega) (by rw [hblk]; intro h; cases h; omega), k5.2 bi (by omega)]; exact hg3
      have ky6 : Keep H H6 := kb6.keep (ky3.trans k5) fun c hc => by rw [hblk] at hc; cases hc; omega
      repeat' first
        | refine CO.nil ?_
        | refine CH.nil ?_
        | fail
      refine ⟨(seen ++ [k], _), (by repeat' first | exact trivial | refine ⟨rfl, ?_⟩), leftN_lt hk hni, hmid.step hf hb harc hk hw, hgi6, hgm6, ho6, ky6, by omega⟩
  have hie : i = cs.length := by omega
  subst hie
  have := hlev.end_ hb
  subst this
  obtain ⟨hcell, _⟩ := own_cells (hsv ▸ ho)
  repeat' first
    | refine CO.cons rfl ?_
    | refine CO.nil ?_
    | refine XV.seq ?_
    | refine XV.cond ?_
    | refine XV.of (N := 107) (wr := false) (sure1 _) (CV.region callees1 ?_)
    | refine XV.of (N := 107) (wr := false) (sure1 _) (CV.exit ?_)
    | refine XV.of (N := 107) (wr := false) (sure1 _) (CV.ret ?_)
    | (refine ⟨fun _ => ?_, fun _ => ?_⟩ <;> first | (exfalso; omega) | skip)
    | fail
  refine ⟨.inr rfl, bb, ?_, by omega, hcell⟩
  rw [hsv]
end Go.Proofs.Ytglkphjjinmgmaa

