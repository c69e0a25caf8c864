
/- When coals truly begin: the walk. -/
import Derived.Test.YtglkphjjinmgmaaWmh
import Derived.Test.YtglkphjjinmgmaaWnh
set_option linter.unusedVariables false
set_option linter.unusedSimpArgs false
namespace Go.Proofs.Ytglkphjjinmgmaa
open Go.AI
theorem foR0 : fieldOff Try.prog 71 0 = some (0, 1) := by kernel_rfl
theorem foR1 : fieldOff Try.prog 71 1 = some (1, 1) := by kernel_rfl
theorem allocRv {H : Heap} {c t : Value} (h1 : c.cells.toList = [c]) (h2 : t.cells.toList = [t]) : anew H (Value.cells (Fv c t)).toList 71 1 = H.new (.cells (Fl c t) 71 1) := by
  have : (Value.cells (Fv c t)).toList = c.cells.toList ++ (t.cells.toList ++ []) := by
    rw [h1, h2]; rfl
  rw [this, h1, h2]; rfl
theorem row_cells {H : Heap} {v : Value} {vs : List Value} (h : Row H v vs) : v.cells.toList = [v] := by
  rcases h with ⟨rfl, _⟩ | ⟨rfl, _⟩ | ⟨_, _, _, _, _, _, rfl, _⟩ <;> rfl
theorem ag22h : isAggB Try.prog 33 = some false := by kernel_rfl
theorem ag4h : isAggB Try.prog 4 = some false := by kernel_rfl
theorem cs_lit {H : Heap} {v : Value} {l : List Co} (h : RowS 7 H v (l.map Col)) {j : Nat} (hj : j < l.length) : aload Try.prog 4 H (fieldOf (elemS v 7 j) 6) = some (.bool l[j]!.lt) := h.fload ag4h (j := j) (o := 6) (r := Col l[j]!) (col_at hj) rfl
theorem ts_a {H : Heap} {v : Value} {l : List (Int × Int)} (h : RowS 2 H v (l.map Hl)) {j : Nat} (hj : j < l.length) : aload Try.prog 3 H (fieldOf (elemS v 2 j) 0) = some (VJ (l[j]!).1) := h.fload ag3 (j := j) (o := 0) (r := Hl l[j]!) (hl_at hj) rfl
theorem ts_b {H : Heap} {v : Value} {l : List (Int × Int)} (h : RowS 2 H v (l.map Hl)) {j : Nat} (hj : j < l.length) : aload Try.prog 3 H (fieldOf (elemS v 2 j) 1) = some (VJ (l[j]!).2) := h.fload ag3 (j := j) (o := 1) (r := Hl l[j]!) (hl_at hj) rfl
theorem ts_f {H : Heap} {v : Value} {l : List (Int × Int)} (h : RowS 2 H v (l.map Hl)) {f o n j : Nat} (hf : fieldOff Try.prog 99 f = some (o, n)) (hn : n ≠ 0) (hj : j < l.length) : afieldAddr Try.prog 99 (elemS v 2 j) f = some (fieldOf (elemS v 2 j) o) := h.faddr hf hn (by rw [List.length_map]; exact hj)
theorem un83 : Try.prog.underlying 103 = some (.array 2 3) := by kernel_rfl
theorem sz83 : sizeB Try.prog 103 = some 2 := by kernel_rfl
theorem zero83 : zeroCellsW Try.prog 103 = some (Hl (0, 0)) := by kernel_rfl
theorem al83 {H : Heap} : sAlloc Try.prog H 103 = some (.pointer (some ⟨H.n, 0, none⟩), H.new (.cells (Hl (0, 0)) 103 1), H.n) := alloc_ofW zero83
theorem st83 {H : Heap} {b k : Nat} {p q : Int × Int} {e : TypeId} (hg : H.get b = some (.cells (Hl p) e (k + 1))) : astore Try.prog 103 H (Hv q) (.pointer (some ⟨b, 0, none⟩)) = some (H.set b (.cells (Hl q) e (k + 1)), b) := store_allW (vs := Hl q) hg rfl sz83 rfl
theorem bu83 {x y : Int} : abuild Try.prog 103 [(0, VJ x), (1, VJ y)] = some (Hv (x, y)) := by kernel_rfl
theorem addr83 {b i : Nat} {k : Int} (h0 : 0 ≤ k) (h1 : k < 2) : aindexAddr Try.prog 103 (.pointer (some ⟨b, i, none⟩)) (VJ k) = some (.pointer (some ⟨b, i + k.toNat * 1, none⟩)) := array_addr un83 sz3 h0 h1
theorem map_at {α : Type} [Inhabited α] {f : α → Int} {l : List α} {i : Nat} (h : i < l.length) : (l.map f)[i]! = f l[i]! := by
  rw [getElem!_pos _ i (by simpa using h), List.getElem_map, getElem!_pos l i h]
theorem mem_at2 {l : List (Int × Int)} {i : Nat} (h : i < l.length) : ((l[i]!).1, (l[i]!).2) ∈ l := by
  show l[i]! ∈ l
  rw [getElem!_pos l i h]; exact List.getElem_mem h
set_option maxHeartbeats 8000000 in
set_option maxRecDepth 100000 in
theorem truly_spec {B : Nat} {H : Heap} {cv tv av bv : Value} {cs cs' : List Co} {ts : List (Int × Int)} {e : Int} {Bs : List Int} (hB : B ≤ H.n) (hc : RowS 7 H cv (cs.map Col)) (ht : RowS 2 H tv (ts.map Hl)) (hts : sameFix tv tv = true) (hC : Ints H av (cs'.map (ca e))) (hR : Ints H bv (cs'.map (bu e))) (hll : cs'.length = cs.length) (hlt : ∀ i, i < cs.length → cs'[i]!.lt = cs[i]!.lt) (hf : FOk cs' ts) (hn : cs'.length ≤ 8) (hs : ∀ i, i < cs'.length → ca e cs'[i]! ≤ 8) (hb : IsBeg e cs' ts Bs) :
    CallB Try.prog B 47 [Fv cv tv, Fv av bv] H (fun r H' => Own 3 H' r (Bs.map VJ) H.n ∧ Keep H H') := by
  have hbl := hb.len
  have hmt := hf.m
  have hCl : (cs'.map (ca e)).length = cs.length := by rw [List.length_map]; exact hll
  have hRl : (cs'.map (bu e)).length = cs.length := by rw [List.length_map]; exact hll
  refine CV.enter callees false rfl Try.func47 rfl (by kernel_rfl) (Nat.le_of_ble_eq_true rfl) hB ?_
  repeat' first
    | refine CO.cons rfl ?_
    | refine CV.seq ?_
    | refine CV.region callees ?_
    | fail
  refine ⟨(by simp only [notTuple]), ?_⟩
  rw [allocFv hc.cells.1 ht.cells.1]
  generalize hs0 : Heap.new H _ = H0
  have hg0 := new_get hs0
  have k0 := new_keep hs0
  have n0 := new_n hs0
  obtain ⟨b0, hbn0⟩ : ∃ b, Heap.n H = b := ⟨_, rfl⟩
  rw [hbn0] at hg0 n0 ⊢
  repeat' first
    | refine CO.cons rfl ?_
    | fail
  refine ⟨(by simp only [notTuple]), ?_⟩
  rw [allocRv (row_cells hC) (row_cells hR)]
  generalize hs1 : Heap.new H0 _ = H1
  have hg1 := new_get hs1
  have k1 := new_keep hs1
  have n1 := new_n hs1
  obtain ⟨b1, hbn1⟩ : ∃ b, Heap.n H0 = b := ⟨_, rfl⟩
  rw [hbn1] at hg1 n1 ⊢
  have k01 := k0.trans k1
  have hf1 := (k1.2 b0 (by omega)).trans hg0
  have hc1 := hc.keep k01
  repeat' first
    | refine CO.cons rfl ?_
    | refine CO.nil ?_
    | refine CV.seq ?_
    | refine CV.region callees ?_
    | (refine ⟨_, fS foF0 (by decide), ?_⟩)
    | (refine ⟨_, cell_load ag25 hf1 rfl, ?_⟩)
    | (refine ⟨_, cs_len hc1, ?_⟩)
    | fail
  refine ⟨_, _, make_row un22 one3 (by omega) cs.length (by omega), ?_⟩
  generalize hs2 : Heap.new H1 _ = H2
  have hg2 := new_get hs2
  have k2 := new_keep hs2
  have n2 := new_n hs2
  obtain ⟨b2, hbn2⟩ : ∃ b, Heap.n H1 = b := ⟨_, rfl⟩
  rw [hbn2] at hg2 n2 ⊢
  have hf2 := (k2.2 b0 (by omega)).trans hf1
  have hr2 := (k2.2 b1 (by omega)).trans hg1
  have k02 := k01.trans k2
  have ho2 : Own 3 H2 (.slice (some ⟨b2, 0, none⟩) cs.length 0) ((List.replicate cs.length (0 : Int)).map VJ) b2 := .inr ⟨b2, by simp, Nat.le_refl _, by omega, by rw [hg2]; simp⟩
  obtain ⟨sv, hsv⟩ : ∃ sv, Value.slice (some ⟨b2, 0, none⟩) cs.length 0 = sv := ⟨_, rfl⟩
  have hblk : blkOf sv = some b2 := by rw [← hsv]; rfl
  rw [hsv] at ho2 ⊢
  repeat' first
    | refine CO.cons rfl ?_
    | refine CO.nil ?_
    | refine CV.seq ?_
    | refine CV.region callees ?_
    | refine CV.block ?_
    | fail
  refine CV.loopc ?_
  refine WCv.rounds callees false (α := Nat × List Int) (fun (i, A) => [(2, .pointer (some ⟨b0, 0, none⟩)), (3, .pointer (some ⟨b1, 0, none⟩)), (5, sv), (6, VJ i)]) (fun (i, A) Hz => i ≤ cs.length ∧ A.length = cs.length ∧ (∀ j : Nat, j < i → A[j]! = Am Bs 0 j) ∧ Hz.get b0 = some (.cells (Fl cv tv) 25 1) ∧ Hz.get b1 = some (.cells (Fl av bv) 71 1) ∧ Own 3 Hz sv (A.map VJ) b2 ∧ Keep H Hz ∧ b2 < Hz.n) (fun (i, A) => cs.length - i) (0, List.replicate cs.length (0 : Int)) (by repeat' first | exact trivial | refine ⟨rfl, ?_⟩ | refine ⟨slot_int (by (try simp only [Int.toNat_natCast]); omega), ?_⟩) ?_ ?_
  · exact ⟨by omega, by simp, fun j hj => by omega, hf2, hr2, ho2, k02, by omega⟩
  clear hf2 hr2 ho2 k02 hf1 hc1
  rintro ⟨i, A⟩ Hx ⟨hi, hAl, hA, hfx, hrx, hox, kx, lx⟩ hBx
  have hIx : Ints Hx sv A := hox.row
  have hbne : ∀ c, c ≠ b2 → blkOf sv ≠ some c := fun c hc h => by rw [hblk] at h; cases h; exact hc rfl
  by_cases hi2 : i < cs.length
  · repeat' first
      | refine CO.cons rfl ?_
      | refine CO.nil ?_
      | refine CV.seq ?_
      | refine CV.region callees ?_
      | refine CV.cond ?_
      | refine CV.block ?_
      | refine CV.skip ?_
      | refine ⟨_, ints_len (by assumption), ?_⟩
      | refine ⟨_, ints_addr (by assumption) (by omega) (by omega), ?_⟩
      | (refine ⟨fun _ => ?_, fun _ => ?_⟩ <;> first | (exfalso; omega) | skip)
      | fail
    refine put_ask (y := 1000000) hox (by omega) (by omega) ?_
    intro H3 ho3 kb3
    have l3 := kb3.le
    have hf3 := (kb3.get b0 (by omega) (hbne b0 (by omega))).trans hfx
    have hr3 := (kb3.get b1 (by omega) (hbne b1 (by omega))).trans hrx
    have k3 : Keep H H3 := kb3.keep kx fun c hc => by rw [hblk] at hc; cases hc; omega
    have hc3 := hc.keep k3
    rw [Int.toNat_natCast] at ho3
    have ham := am_zero hf hb (i := i) (by omega)
    rw [hlt i hi2] at ham
    clear hIx
    have hI3 : Ints H3 sv (A.set i 1000000) := ho3.row
    have hsl : (A.set i 1000000).length = cs.length := by rw [List.length_set]; exact hAl
    cases hl : cs[i]!.lt with
    | true =>
      repeat' first
        | refine CO.cons rfl ?_
        | refine CO.nil ?_
        | refine CV.seq ?_
        | refine CV.region callees ?_
        | refine CV.cond ?_
        | refine ⟨_, ints_addr (by assumption) (by omega) (by omega), ?_⟩
        | (refine ⟨_, fS foF0 (by decide), ?_⟩)
        | (refine ⟨_, cell_load ag25 hf3 rfl, ?_⟩)
        | (refine ⟨_, cs_addr hc3 (by omega) (by omega), ?_⟩)
        | (refine ⟨_, cs_f hc3 foC3 (by decide) hi2, ?_⟩)
        | (refine ⟨_, (cs_lit hc3 hi2).trans (by rw [hl]), ?_⟩)
        | fail
      refine put_ask (y := 0) ho3 (by omega) (by omega) ?_
      intro H4 ho4 kb4
      have l4 := kb4.le
      rw [Int.toNat_natCast] at ho4
      repeat' first
        | refine CO.cons rfl ?_
        | refine CO.nil ?_
        | refine CV.region callees ?_
        | refine ⟨(⟨by omega, by omega⟩ : inI64 _), ?_⟩
        | fail
      refine ⟨(i + 1, (A.set i 1000000).set i 0), (by repeat' first | exact trivial | refine ⟨rfl, ?_⟩ | refine ⟨slot_int (by (try simp only [Int.toNat_natCast]); omega), ?_⟩), (by (try dsimp only); omega), ?_⟩
      refine ⟨by omega, by rw [List.length_set]; exact hsl, fun j hj => ?_, (kb4.get b0 (by omega) (hbne b0 (by omega))).trans hf3, (kb4.get b1 (by omega) (hbne b1 (by omega))).trans hr3, ho4, kb4.keep k3 (fun c hc => by rw [hblk] at hc; cases hc; omega), by omega⟩
      rw [getS (by omega)]
      by_cases hji : i = j
      · subst hji; rw [if_pos rfl, ham, hl]; rfl
      · rw [if_neg hji, getS (by omega), if_neg hji]; exact hA j (by omega)
    | false =>
      repeat' first
        | refine CO.cons rfl ?_
        | refine CO.nil ?_
        | refine CV.seq ?_
        | refine CV.region callees ?_
        | refine CV.cond ?_
        | refine CV.skip ?_
        | refine ⟨(⟨by omega, by omega⟩ : inI64 _), ?_⟩
        | (refine ⟨_, fS foF0 (by decide), ?_⟩)
        | (refine ⟨_, cell_load ag25 hf3 rfl, ?_⟩)
        | (refine ⟨_, cs_addr hc3 (by omega) (by omega), ?_⟩)
        | (refine ⟨_, cs_f hc3 foC3 (by decide) hi2, ?_⟩)
        | (refine ⟨_, (cs_lit hc3 hi2).trans (by rw [hl]), ?_⟩)
        | fail
      refine ⟨(i + 1, A.set i 1000000), (by repeat' first | exact trivial | refine ⟨rfl, ?_⟩ | refine ⟨slot_int (by (try simp only [Int.toNat_natCast]); omega), ?_⟩), (by (try dsimp only); omega), ?_⟩
      refine ⟨by omega, hsl, fun j hj => ?_, hf3, hr3, ho3, k3, by omega⟩
      rw [getS (by omega)]
      by_cases hji : i = j
      · subst hji; rw [if_pos rfl, ham, hl]; rfl
      · rw [if_neg hji]; exact hA j (by omega)
  obtain rfl : i = cs.length := by omega
  repeat' first
    | refine CO.cons rfl ?_
    | refine CO.nil ?_
    | refine CV.seq ?_
    | refine CV.region callees ?_
    | refine CV.cond ?_
    | refine CV.block ?_
    | refine CV.exit ?_
    | refine ⟨_, ints_len (by assumption), ?_⟩
    | (refine ⟨fun _ => ?_, fun _ => ?_⟩ <;> first | (exfalso; omega) | skip)
    | fail
  refine CV.loopc ?_
  refine WCv.rounds callees false (α := Nat × List Int) (fun (m, A) => [(2, .pointer (some ⟨b0, 0, none⟩)), (3, .pointer (some ⟨b1, 0, none⟩)), (5, sv), (7, VJ m)]) (fun (m, A) Hz => m ≤ 201 ∧ A.length = cs.length ∧ (∀ j : Nat, j < cs'.length → A[j]! = Am Bs m j) ∧ Hz.get b0 = some (.cells (Fl cv tv) 25 1) ∧ Hz.get b1 = some (.cells (Fl av bv) 71 1) ∧ Own 3 Hz sv (A.map VJ) b2 ∧ Keep H Hz ∧ b2 < Hz.n) (fun (m, A) => 201 - m) (0, A) (by repeat' first | exact trivial | refine ⟨rfl, ?_⟩ | refine ⟨slot_int (by (try simp only [Int.toNat_natCast]); omega), ?_⟩) ?_ ?_
  · exact ⟨by omega, hAl, fun j hj => hA j (by omega), hfx, hrx, hox, kx, lx⟩
  clear hAl hA hfx hrx hox kx lx hIx hi hi2
  rintro ⟨mN, A0⟩ Hx ⟨hm, hAl, hA, hfx, hrx, hox, kx, lx⟩ hBx
  by_cases hm2 : mN ≤ 200
  · repeat' first
      | refine CO.cons rfl ?_
      | refine CO.nil ?_
      | refine CV.seq ?_
      | refine CV.region callees ?_
      | refine CV.cond ?_
      | refine CV.block ?_
      | refine CV.skip ?_
      | (refine ⟨fun _ => ?_, fun _ => ?_⟩ <;> first | (exfalso; omega) | skip)
      | fail
    refine CV.loopc ?_
    refine WCv.rounds callees false (α := Nat × List Int) (fun (j, A) => [(2, .pointer (some ⟨b0, 0, none⟩)), (3, .pointer (some ⟨b1, 0, none⟩)), (5, sv), (7, VJ (mN : Int)), (8, VJ j)]) (fun (j, A) Hz => j ≤ ts.length ∧ MidT e cs' Bs (mN : Int) (PrT ts j 0) A ∧ Hz.get b0 = some (.cells (Fl cv tv) 25 1) ∧ Hz.get b1 = some (.cells (Fl av bv) 71 1) ∧ Own 3 Hz sv (A.map VJ) b2 ∧ Keep H Hz ∧ b2 < Hz.n) (fun (j, A) => ts.length - j) (0, A0) (by repeat' first | exact trivial | refine ⟨rfl, ?_⟩ | refine ⟨slot_int (by (try simp only [Int.toNat_natCast]); omega), ?_⟩) ?_ ?_
    · exact ⟨by omega, (MidT.start (by omega) hA).mono fun q h => prT_zero h, hfx, hrx, hox, kx, lx⟩
    clear hAl hA hfx hrx hox kx lx
    rintro ⟨j, A⟩ Hx ⟨hj, hmid, hfx, hrx, hox, kx, lx⟩ hBx
    have htx := ht.keep kx
    by_cases hj2 : j < ts.length
    · have hti := hf.t j hj2
      repeat' first
        | refine CO.cons rfl ?_
        | refine CO.nil ?_
        | refine CV.seq ?_
        | refine CV.region callees ?_
        | refine CV.cond ?_
        | refine CV.block ?_
        | refine CV.skip ?_
        | (refine ⟨_, fS foF1 (by decide), ?_⟩)
        | (refine ⟨_, cell_load ag26 hfx rfl, ?_⟩)
        | (refine ⟨_, ts_len htx, ?_⟩)
        | (refine ⟨fun _ => ?_, fun _ => ?_⟩ <;> first | (exfalso; omega) | skip)
        | fail
      refine CV.wideR callees (by decide +kernel) [(0, []), (1, []), (2, []), (3, []), (4, []), (5, []), (6, []), (7, []), (8, []), (9, []), (10, []), (11, []), (12, []), (13, [12, 11, 7, 5, 1]), (14, [])] (by kernel_rfl) ?_
      repeat' first
        | refine CR.cons ?_
        | (refine ⟨_, fS foF1 (by decide), ?_⟩)
        | (refine ⟨_, cell_load ag26 hfx rfl, ?_⟩)
        | (refine ⟨_, ts_addr htx (by omega) (by omega), ?_⟩)
        | (refine ⟨_, ts_f htx foT0 (by decide) hj2, ?_⟩)
        | (refine ⟨_, ts_f htx foT1 (by decide) hj2, ?_⟩)
        | (refine ⟨_, ts_a htx hj2, ?_⟩)
        | (refine ⟨_, ts_b htx hj2, ?_⟩)
        | (refine ⟨_, bu83, ?_⟩)
        | (refine ⟨_, _, al83, ?_⟩)
        | fail
      generalize hs4 : Heap.new Hx _ = H4
      have hg4 := new_get hs4
      have k4 := new_keep hs4
      have n4 := new_n hs4
      obtain ⟨b4, hbn4⟩ : ∃ b, Heap.n Hx = b := ⟨_, rfl⟩
      rw [hbn4] at hg4 n4 ⊢
      have kx4 := kx.trans k4
      have ht4 := ht.keep kx4
      have hf4 := (k4.2 b0 (by omega)).trans hfx
      have hr4 := (k4.2 b1 (by omega)).trans hrx
      repeat' first
        | fail
      refine ⟨_, _, st83 hg4, by omega, ?_⟩
      generalize hs9 : Heap.set H4 b4 _ = H9
      have hg9 : H9.get b4 = some (.cells (Hl ts[j]!) 103 1) := set_get hs9
      have n9 := set_n hs9
      have o9 := set_old hs9
      obtain ⟨b9, hb9⟩ : ∃ b9, b4 = b9 := ⟨_, rfl⟩
      rw [hb9] at hg9 o9 ⊢
      have hf9 := (o9 b0 (by omega)).trans hf4
      have hr9 := (o9 b1 (by omega)).trans hr4
      have ho9 := (hox.keep (keep_put k4 (by omega) o9 n9))
      have k9 := kx.trans (keep_put k4 (by omega) o9 n9)
      repeat' first
        | refine CO.cons rfl ?_
        | refine CO.nil ?_
        | refine CV.seq ?_
        | refine CV.region callees ?_
        | refine CV.block ?_
        | refine CR.nil ?_
        | fail
      refine CV.loopc ?_
      refine WCv.rounds callees false (α := Nat × List Int) (fun (k, A) => [(2, .pointer (some ⟨b0, 0, none⟩)), (3, .pointer (some ⟨b1, 0, none⟩)), (5, sv), (7, VJ (mN : Int)), (8, VJ j), (9, .pointer (some ⟨b9, 0, none⟩)), (10, VJ k)]) (fun (k, A) Hz => k ≤ 2 ∧ MidT e cs' Bs (mN : Int) (PrT ts j k) A ∧ Hz.get b0 = some (.cells (Fl cv tv) 25 1) ∧ Hz.get b1 = some (.cells (Fl av bv) 71 1) ∧ Hz.get b9 = some (.cells (Hl ts[j]!) 103 1) ∧ Own 3 Hz sv (A.map VJ) b2 ∧ Keep H Hz ∧ b2 < Hz.n ∧ b9 < Hz.n) (fun (k, A) => 2 - k) (0, A) (by repeat' first | exact trivial | refine ⟨rfl, ?_⟩ | refine ⟨slot_int (by (try simp only [Int.toNat_natCast]); omega), ?_⟩) ?_ ?_
      · exact ⟨by omega, hmid, hf9, hr9, hg9, ho9, k9, by omega, by omega⟩
      have h92 : b9 ≠ b2 := by omega
      clear hmid hfx hrx hox kx lx htx hf9 hr9 hg9 ho9 k9 o9 n9 hg4 k4 n4 kx4 ht4 hf4 hr4
      rintro ⟨k, A⟩ H9 ⟨hk, hmid, hf9, hr9, hg9, ho9, k9, l9, l9'⟩ hB9
      have hAl := hmid.len
      by_cases hk2 : k < 2
      · have hI9 : Ints H9 sv A := ho9.row
        have hC9 : Ints H9 av (cs'.map (ca e)) := hC.keep k9
        have hR9 : Ints H9 bv (cs'.map (bu e)) := hR.keep k9
        have e1 : (cs'.map (ca e))[(ts[j]!).1.toNat]! = ca e (coAt cs' (ts[j]!).1) := map_at (by omega)
        have e2 : (cs'.map (ca e))[(ts[j]!).2.toNat]! = ca e (coAt cs' (ts[j]!).2) := map_at (by omega)
        have e3 : (cs'.map (bu e))[(ts[j]!).1.toNat]! = bu e (coAt cs' (ts[j]!).1) := map_at (by omega)
        have e4 : (cs'.map (bu e))[(ts[j]!).2.toNat]! = bu e (coAt cs' (ts[j]!).2) := map_at (by omega)
        have c1 := ca_pos (e := e) hf hti.1.1 hti.1.2
        have c2 := ca_pos (e := e) hf hti.2.1.1 hti.2.1.2
        have t1 := hmid.top hb (i := (ts[j]!).1.toNat) (by omega)
        have t2 := hmid.top hb (i := (ts[j]!).2.toNat) (by omega)
        rcases (by omega : k = 0 ∨ k = 1) with rfl | rfl
        · repeat' first
            | refine CO.cons rfl ?_
            | refine CO.nil ?_
            | refine CV.seq ?_
            | refine CV.region callees ?_
            | refine CV.cond ?_
            | refine CV.block ?_
            | refine CV.skip ?_
            | refine CV.draw callees (by decide +kernel) ?_
            | refine CH.cons rfl ?_
            | refine CH.nil ?_
            | refine CH.consG rfl ?_
            | refine ⟨_, ints_addr (by assumption) (by omega) (by omega), ?_⟩
            | refine ⟨_, ints_load (by assumption) (by omega) (by omega), ?_⟩
            | refine ⟨(⟨by omega, by omega⟩ : inI64 _), ?_⟩
            | (refine ⟨_, addr83 (by omega) (by omega), ?_⟩)
            | (refine ⟨_, cell_load ag3 hg9 rfl, ?_⟩)
            | (refine ⟨_, fS foR0 (by decide), ?_⟩)
            | (refine ⟨_, fS foR1 (by decide), ?_⟩)
            | (refine ⟨_, cell_load ag22h hr9 rfl, ?_⟩)
            | (refine ⟨fun _ => ?_, fun _ => ?_⟩ <;> first | (exfalso; omega) | skip)
            | fail
          all_goals first
            | (refine put_ask (y := (mN : Int)) ho9 (by omega) (by omega) ?_
               intro Ha hoa kba
               have la := kba.le
               have hbne : ∀ c, c ≠ b2 → blkOf sv ≠ some c := fun c hc h => by rw [hblk] at h; cases h; exact hc rfl
               repeat' first
                 | refine CO.cons rfl ?_
                 | refine CO.nil ?_
                 | refine CV.region callees ?_
                 | refine ⟨(⟨by omega, by omega⟩ : inI64 _), ?_⟩
                 | fail
               refine ⟨(1, A.set ((ts[j]!).2).toNat (mN : Int)), (by repeat' first | exact trivial | refine ⟨rfl, ?_⟩ | refine ⟨slot_int (by (try simp only [Int.toNat_natCast]); omega), ?_⟩), (by (try dsimp only); omega), ?_⟩
               exact ⟨by omega, MidT.yes2 hf hb hmid (.inl (mem_at2 hj2)) (by omega) (by omega) (by omega) (by omega) (by omega) (fun q h => prT_one h), (kba.get b0 (by omega) (hbne b0 (by omega))).trans hf9, (kba.get b1 (by omega) (hbne b1 (by omega))).trans hr9, (kba.get b9 (by omega) (hbne b9 (by omega))).trans hg9, hoa, kba.keep k9 (fun c hc => by rw [hblk] at hc; cases hc; omega), by omega, by omega⟩)
            | (refine ⟨(1, A), (by repeat' first | exact trivial | refine ⟨rfl, ?_⟩ | refine ⟨slot_int (by (try simp only [Int.toNat_natCast]); omega), ?_⟩), (by (try dsimp only); omega), ?_⟩
               exact ⟨by omega, MidT.no2 hf hb hmid (.inl (mem_at2 hj2)) (by omega) (by omega) (fun q h => prT_one h), hf9, hr9, hg9, ho9, k9, by omega, by omega⟩)
        · repeat' first
            | refine CO.cons rfl ?_
            | refine CO.nil ?_
            | refine CV.seq ?_
            | refine CV.region callees ?_
            | refine CV.cond ?_
            | refine CV.block ?_
            | refine CV.skip ?_
            | refine CV.draw callees (by decide +kernel) ?_
            | refine CH.cons rfl ?_
            | refine CH.nil ?_
            | refine CH.consG rfl ?_
            | refine ⟨_, ints_addr (by assumption) (by omega) (by omega), ?_⟩
            | refine ⟨_, ints_load (by assumption) (by omega) (by omega), ?_⟩
            | refine ⟨(⟨by omega, by omega⟩ : inI64 _), ?_⟩
            | (refine ⟨_, addr83 (by omega) (by omega), ?_⟩)
            | (refine ⟨_, cell_load ag3 hg9 rfl, ?_⟩)
            | (refine ⟨_, fS foR0 (by decide), ?_⟩)
            | (refine ⟨_, fS foR1 (by decide), ?_⟩)
            | (refine ⟨_, cell_load ag22h hr9 rfl, ?_⟩)
            | (refine ⟨fun _ => ?_, fun _ => ?_⟩ <;> first | (exfalso; omega) | skip)
            | fail
          all_goals first
            | (refine put_ask (y := (mN : Int)) ho9 (by omega) (by omega) ?_
               intro Ha hoa kba
               have la := kba.le
               have hbne : ∀ c, c ≠ b2 → blkOf sv ≠ some c := fun c hc h => by rw [hblk] at h; cases h; exact hc rfl
               repeat' first
                 | refine CO.cons rfl ?_
                 | refine CO.nil ?_
                 | refine CV.region callees ?_
                 | refine ⟨(⟨by omega, by omega⟩ : inI64 _), ?_⟩
                 | fail
               refine ⟨(2, A.set ((ts[j]!).1).toNat (mN : Int)), (by repeat' first | exact trivial | refine ⟨rfl, ?_⟩ | refine ⟨slot_int (by (try simp only [Int.toNat_natCast]); omega), ?_⟩), (by (try dsimp only); omega), ?_⟩
               exact ⟨by omega, MidT.yes2 hf hb hmid (.inr (mem_at2 hj2)) (by omega) (by omega) (by omega) (by omega) (by omega) (fun q h => prT_two h), (kba.get b0 (by omega) (hbne b0 (by omega))).trans hf9, (kba.get b1 (by omega) (hbne b1 (by omega))).trans hr9, (kba.get b9 (by omega) (hbne b9 (by omega))).trans hg9, hoa, kba.keep k9 (fun c hc => by rw [hblk] at hc; cases hc; omega), by omega, by omega⟩)
            | (refine ⟨(2, A), (by repeat' first | exact trivial | refine ⟨rfl, ?_⟩ | refine ⟨slot_int (by (try simp only [Int.toNat_natCast]); omega), ?_⟩), (by (try dsimp only); omega), ?_⟩
               exact ⟨by omega, MidT.no2 hf hb hmid (.inr (mem_at2 hj2)) (by omega) (by omega) (fun q h => prT_two h), hf9, hr9, hg9, ho9, k9, by omega, by omega⟩)
      obtain rfl : k = 2 := by omega
      repeat' first
        | refine CO.cons rfl ?_
        | refine CO.nil ?_
        | refine CV.seq ?_
        | refine CV.region callees ?_
        | refine CV.cond ?_
        | refine CV.exit ?_
        | refine ⟨(⟨by omega, by omega⟩ : inI64 _), ?_⟩
        | (refine ⟨fun _ => ?_, fun _ => ?_⟩ <;> first | (exfalso; omega) | skip)
        | fail
      refine ⟨(j + 1, A), (by repeat' first | exact trivial | refine ⟨rfl, ?_⟩ | refine ⟨slot_int (by (try simp only [Int.toNat_natCast]); omega), ?_⟩), (by (try dsimp only); omega), ?_⟩
      exact ⟨by omega, hmid.mono fun q h => prT_next h, hf9, hr9, ho9, k9, by omega⟩
    obtain rfl : j = ts.length := by omega
    repeat' first
      | refine CO.cons rfl ?_
      | refine CO.nil ?_
      | refine CV.seq ?_
      | refine CV.region callees ?_
      | refine CV.cond ?_
      | refine CV.exit ?_
      | refine ⟨(⟨by omega, by omega⟩ : inI64 _), ?_⟩
      | (refine ⟨_, fS foF1 (by decide), ?_⟩)
      | (refine ⟨_, cell_load ag26 hfx rfl, ?_⟩)
      | (refine ⟨_, ts_len htx, ?_⟩)
      | (refine ⟨fun _ => ?_, fun _ => ?_⟩ <;> first | (exfalso; omega) | skip)
      | fail
    refine ⟨(mN + 1, A), (by repeat' first | exact trivial | refine ⟨rfl, ?_⟩ | refine ⟨slot_int (by (try simp only [Int.toNat_natCast]); omega), ?_⟩), (by (try dsimp only); omega), ?_⟩
    refine ⟨by omega, by have := hmid.len; omega, fun i hi => ?_, hfx, hrx, hox, kx, lx⟩
    rw [show ((mN + 1 : Nat) : Int) = (mN : Int) + 1 by omega]
    exact MidT.end_ hf hb hmid (fun p h => prT_all h) (by omega) (by omega) i hi
  obtain rfl : mN = 201 := by omega
  obtain rfl : A0 = Bs := am_last hf hb hn hs (by omega) hA
  repeat' first
    | refine CO.cons rfl ?_
    | refine CO.nil ?_
    | refine CV.seq ?_
    | refine CV.region callees ?_
    | refine CV.cond ?_
    | refine CV.exit ?_
    | refine CV.ret ?_
    | (refine ⟨fun _ => ?_, fun _ => ?_⟩ <;> first | (exfalso; omega) | skip)
    | fail
  exact ⟨by rw [← hsv]; rfl, hox.lower (by omega), kx⟩
end Go.Proofs.Ytglkphjjinmgmaa
