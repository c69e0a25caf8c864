
/- The program's verdicts. -/
import Derived.Test.YtlamceokhbigaaaTrg
set_option linter.unusedVariables false
set_option linter.unusedSimpArgs false
namespace Go.AI
section
variable {P : Program} {H : Heap} {t e : TypeId} {z : Value} {by' : Nat}
theorem make_row24 (ht : P.underlying t = some (.slice e)) (h1 : oneBB P e = some (z, by')) (hb : by' ≤ 1000) (n : Nat) (hn : n ≤ 1000000) :
    amakeSlice P H t (.int .i64 n) (.int .i64 n) = some (.slice (some ⟨H.n, 0, none⟩) n 0, H.new (.cells (List.replicate n z) e 2), H.n) := by
  obtain ⟨info, hi, hz, hs, hc, hsc, hby⟩ := oneBB_spec h1
  have hmul : info.bytes * n ≤ 1000 * 1000000 := Nat.mul_le_mul (by omega) hn
  simp only [amakeSlice, ht, hi, hz]
  rw [if_pos (by
    refine ⟨by omega, by omega, by omega, by have h := Int.ofNat_le.2 hmul; rw [Int.natCast_mul] at h; omega, by omega, by rw [hc, hs]; rfl, by rw [hc]; simp [hsc]⟩)]
  simp only [anew, Int.toNat_natCast, hs, Nat.mul_one, hc]
  congr 5
  apply List.ext_getElem
  · simp [zeros]
  · intro i h1 h2; simp [zeros, Nat.mod_one]

end
end Go.AI
namespace Go.Proofs.Ytlamceokhbigaaa
open Go.AI
def rowV (F : List (List Int)) (x : Int) (j : Nat) : List Int := (List.range j).map fun (y : Nat) => verd (cnt F x (y : Int)) F.length
theorem rowV_succ {F : List (List Int)} {x : Int} {j : Nat} : rowV F x (j + 1) = rowV F x j ++ [verd (cnt F x (j : Int)) F.length] := by
  unfold rowV
  rw [List.range_succ, List.map_append]
  rfl
theorem rowV_len {F : List (List Int)} {x : Int} {j : Nat} : (rowV F x j).length = j := by simp [rowV]
theorem drop_get {o : List Int} {i j : Nat} (h : i + j < o.length) : (o.drop i)[j]! = o[i + j]! := by
  rw [getElem!_pos (o.drop i) j (by rw [List.length_drop]; omega), getElem!_pos o (i + j) h, List.getElem_drop]
set_option maxHeartbeats 16000000 in
set_option maxRecDepth 100000 in
theorem sure_spec {B : Nat} {H : Heap} {gv rv : Value} {gs : List Gu} {rs : List Ru} (hB : B ≤ H.n) (hg : RowS 5 H gv (gs.map Gul)) (hgs : sameFix gv gv = true) (hr : RowS 4 H rv (rs.map Rul)) (hp : PaOk gs rs) :
    CallB Try.prog B 33 [Pav gv rv] H (fun v H' => (∃ q c, v = .tuple #[q, VI c] ∧ (okL gs rs = [] ∧ q = nilS ∧ c = 12 ∨ okL gs rs ≠ [] ∧ c = 0 ∧ ∃ vs, LLs H' q vs ((List.range gs.length).map fun (x : Nat) => rowV (okL gs rs) (x : Int) gs.length) H.n 0)) ∧ Keep H H') := by
  have h7 := hp.n7
  refine CV.enter callees false rfl Try.func33 rfl (by kernel_rfl) (Nat.le_of_ble_eq_true rfl) hB ?_
  repeat' first
    | refine CO.cons rfl ?_
    | refine CV.seq ?_
    | refine CV.region callees ?_
    | fail
  refine ⟨(by simp only [notTuple]), ?_⟩
  rw [boxP hg.cells.1 hr.cells.1]
  generalize hs0 : Heap.new H _ = H0
  have hg0 := new_get hs0
  have k0 := new_keep hs0
  have n0 := new_n hs0
  obtain ⟨b0, hbn0⟩ : ∃ b, Heap.n H = b := ⟨_, rfl⟩
  rw [hbn0] at hg0 n0 ⊢
  repeat' first
    | refine CO.cons rfl ?_
    | refine CO.nil ?_
    | refine CV.seq ?_
    | refine CV.region callees ?_
    | (refine ⟨_, ld25 hg0, ?_⟩)
    | fail
  refine (check_spec (by omega) (hg.keep k0) (hr.keep k0) hp).mono ?_
  rintro v H1 ⟨rfl, k1⟩
  have l1 := k1.1
  have hP1 := (k1.2 b0 (by omega)).trans hg0
  repeat' first
    | refine CO.cons rfl ?_
    | refine CO.nil ?_
    | refine CV.seq ?_
    | refine CV.region callees ?_
    | refine CV.cond ?_
    | refine CV.skip ?_
    | (refine ⟨_, _, al111, ?_⟩)
    | (refine ⟨fun _ => ?_, fun _ => ?_⟩ <;> first | (exfalso; omega) | skip)
    | fail
  rw [← tabF_zero]
  generalize hs2 : Heap.new H1 _ = H2
  have hg2 := new_get hs2
  have k2 := new_keep hs2
  have n2 := new_n hs2
  obtain ⟨b2, hbn2⟩ : ∃ b, Heap.n H1 = b := ⟨_, rfl⟩
  rw [hbn2] at hg2 n2 ⊢
  repeat' first
    | refine CO.cons rfl ?_
    | (refine ⟨_, _, al3, ?_⟩)
    | fail
  generalize hs3 : Heap.new H2 _ = H3
  have hg3 := new_get hs3
  have k3 := new_keep hs3
  have n3 := new_n hs3
  obtain ⟨b3, hbn3⟩ : ∃ b, Heap.n H2 = b := ⟨_, rfl⟩
  rw [hbn3] at hg3 n3 ⊢
  repeat' first
    | fail
  refine ⟨_, _, var_store sz3 hg3 rfl, by omega, ?_⟩
  generalize hs4 : Heap.set H3 b3 _ = H4
  have hg4 : H4.get b3 = some (.cells ([VI 0]) 3 1) := set_get hs4
  have n4 := set_n hs4
  have o4 := set_old hs4
  have k24 : Keep H2 H4 := keep_put k3 (by omega) o4 n4
  have k14 : Keep H1 H4 := k2.trans k24
  have hP4 := (k14.2 b0 (by omega)).trans hP1
  have hT4 := (k24.2 b2 (by omega)).trans hg2
  have k04 := (k0.trans k1).trans k14
  have l4 := k04.1
  repeat' first
    | refine CO.cons rfl ?_
    | refine CO.nil ?_
    | refine CV.seq ?_
    | refine CV.region callees ?_
    | (refine ⟨_, ld25 hP4, ?_⟩)
    | fail
  refine (allowed_spec (by omega) hg.cells.1 hr.cells.1).mono ?_
  rintro v H5 ⟨⟨pp, rfl, hpp, hp1, hp2⟩, k5⟩
  have l5 := k5.1
  repeat' first
    | refine CO.nil ?_
    | refine CV.block ?_
    | fail
  refine CV.rangeFunc callees ?_
  refine fun tm ha => ?_
  generalize hs6 : Heap.new H5 _ = H6
  have hg6 := new_get hs6
  have k6 := new_keep hs6
  have n6 := new_n hs6
  obtain ⟨l, hl⟩ : ∃ l, H5.n = l := ⟨_, rfl⟩
  rw [hl] at hg6 n6 ⊢
  have k46 : Keep H4 H6 := k5.trans k6
  have k06 : Keep H H6 := k04.trans k46
  have l06 := k06.1
  have hpp6 := (k6.2 pp (by omega)).trans hpp
  have hP6 := (k46.2 b0 (by omega)).trans hP4
  have hT6 := (k46.2 b2 (by omega)).trans hT4
  have hc6 := (k46.2 b3 (by omega)).trans hg4
  refine (allowed1_spec (B := B) (l := l) (pp := pp) (gv := gv) (rv := rv)
    (fun _ F X => X.get l = H6.get l ∧ X.get b3 = some (.cells [VI F.length] 3 1) ∧ X.get b2 = some (.cells (tabF (cnt F)) 111 1) ∧ X.get b0 = some (.cells (Pal gv rv) 25 1) ∧ X.get pp = H6.get pp ∧ Keep H X ∧ H6.n ≤ X.n)
    (by omega) hp hgs hpp6 (by omega) (hg.keep k06) (hr.keep k06) ?_ ?_ ?_ ?_).mono ?_
  · intro e X kk h1 h2
    exact ⟨kk.2 l (by omega), (kk.2 b3 (by omega)).trans hc6, (kk.2 b2 (by omega)).trans hT6, (kk.2 b0 (by omega)).trans hP6, kk.2 pp (by omega), k06.trans kk, kk.1⟩
  · rintro e F X ⟨q1, q2, q2t, q2p, q3, q4, q5⟩
    exact ⟨q3, hg.keep q4, hr.keep q4⟩
  · rintro e F X X' q ⟨q1, q2, q2t, q2p, q3, q4, q5⟩ h1 h2 kk
    exact ⟨(kk.2 l (by omega) (by omega)).trans q1, (kk.2 b3 (by omega) (by omega)).trans q2, (kk.2 b2 (by omega) (by omega)).trans q2t, (kk.2 b0 (by omega) (by omega)).trans q2p, (kk.2 pp (by omega) (by omega)).trans q3, kk.keep q4 (by omega), by have := kk.1; omega⟩
  · rintro e F o ov X ⟨q1, q2, q2t, q2p, q3, q4, q5⟩ hok ho1 ho2 hpre hov hBX h1 h2
    have hFl : F.length < 823544 := by
      have a := hpre.length_le
      have b := okL_len (gs := gs) (rs := rs) hp.n7
      rw [List.length_append] at a
      omega
    have hFs : ((F ++ [o]).length : Int) = (F.length : Int) + 1 := by rw [List.length_append, List.length_singleton]; omega
    refine RoundB.enter callees false (q1.trans hg6) ha rfl hBX (by omega) ?_
    repeat' first
      | refine CO.cons rfl ?_
      | refine CO.nil ?_
      | refine CV.region callees ?_
      | fail
    refine ⟨_, _, _, _, _, q1.trans hg6, ?_⟩
    generalize hs7 : X.set l _ = X1
    have hg7 := set_get hs7
    have n7 := set_n hs7
    have o7 := set_old hs7
    have hc7 := (o7 b3 (by omega)).trans q2
    have ht7 := (o7 b2 (by omega)).trans q2t
    have hov1 : Ints X1 ov o := by
      rcases hov with hh | hh | ⟨b', i', c', cs', e', k', a1, a2, a3, a4, a5, a6⟩
      · exact .inl hh
      · exact .inr (.inl hh)
      · exact .inr (.inr ⟨b', i', c', cs', e', k', a1, by omega, by rw [o7 b' (fun hh => by rw [hh, q1.trans hg6] at a3; cases a3)]; exact a3, a4, a5, a6⟩)
    repeat' first
      | refine CO.cons rfl ?_
      | refine CV.seq ?_
      | refine CV.region callees ?_
      | refine CV.block ?_
      | refine ⟨(⟨by omega, by omega⟩ : inI64 _), ?_⟩
      | (refine ⟨_, cell_load ag3 hc7 rfl, ?_⟩)
      | fail
    refine ⟨_, _, var_store sz3 hc7 rfl, by omega, ?_⟩
    generalize hs8 : Heap.set X1 b3 _ = X2
    have hg8 := set_get hs8
    have n8 := set_n hs8
    have o8 := set_old hs8
    have ht8 := (o8 b2 (by omega)).trans ht7
    have hl8 := (o8 l (by omega)).trans hg7
    have kx8 : KeepX b3 X1 X2 := ⟨by omega, fun q _ hq => o8 q hq⟩
    have hov2 : Ints X2 ov o := Row.keepX hov1 kx8 hc7
    repeat' first
      | refine CO.cons rfl ?_
      | refine CO.nil ?_
      | refine CV.seq ?_
      | refine CV.region callees ?_
      | refine CV.block ?_
      | refine ⟨_, ints_len (by assumption), ?_⟩
      | fail
    refine CV.loopc ?_
    refine WCv.rounds callees false (α := Nat × (Int → Int → Int)) (fun (s, f) => [(5, .pointer (some ⟨b2, 0, none⟩)), (7, ov), (26, ov), (27, VI o.length), (28, VI s)]) (fun (s, f) Hz => s ≤ o.length ∧ outF f (o.drop s) = outF (cnt F) o ∧ (∀ a b, 0 ≤ f a b ∧ f a b ≤ F.length + s * 7) ∧ Hz.get b2 = some (.cells (tabF f) 111 1) ∧ KeepX b2 X2 Hz) (fun (s, f) => o.length - s) (0, cnt F) (by repeat' first | exact trivial | refine ⟨rfl, ?_⟩ | refine ⟨slot_int (by (try simp only [Int.toNat_natCast]); omega), ?_⟩) ?_ ?_
    · exact ⟨by omega, rfl, fun a b => by have := cnt_bd (F := F) (a := a) (b := b); omega, ht8, KeepX.refl _ _⟩
    rintro ⟨s, f⟩ Y ⟨hs, hf, hfb, hty, ky⟩ hBy
    have ly := ky.1
    have hoy : Ints Y ov o := Row.keepX hov2 ky ht8
    by_cases hs2 : s < o.length
    · have hxm : o[s]! ∈ o := by rw [getElem!_pos o s hs2]; exact List.getElem_mem _
      have hxr := ho1.r _ hxm
      have hxi : o[(s : Int).toNat]! = o[s]! := rfl
      rw [drop_at hs2, outF] at hf
      obtain ⟨sv, hsv, hsr⟩ := row_slice_lo (i := (s : Int) + 1) (kd := .i64) un22 sz3 hoy (by omega) (by rw [List.length_map]; omega)
      rw [show ((s : Int) + 1).toNat = s + 1 by omega, ← List.map_drop] at hsr
      obtain ⟨rest, hrest⟩ : ∃ rest, o.drop (s + 1) = rest := ⟨_, rfl⟩
      have hrl : rest.length = o.length - (s + 1) := by rw [← hrest, List.length_drop]
      rw [hrest] at hf hsr
      have hsi : Ints Y sv rest := hsr
      obtain ⟨x, hx⟩ : ∃ x, o[s]! = x := ⟨_, rfl⟩
      rw [hx] at hxi hxr hf
      repeat' first
        | refine CO.cons rfl ?_
        | refine CO.nil ?_
        | refine CV.seq ?_
        | refine CV.region callees ?_
        | refine CV.cond ?_
        | refine CV.block ?_
        | refine CV.skip ?_
        | refine ⟨_, ints_len (by assumption), ?_⟩
        | refine ⟨_, ints_addr (by assumption) (by omega) (by omega), ?_⟩
        | refine ⟨_, ints_load (by assumption) (by omega) (by omega), ?_⟩
        | refine ⟨(⟨by omega, by omega⟩ : inI64 _), ?_⟩
        | (refine ⟨_, hsv, ?_⟩)
        | (refine ⟨fun _ => ?_, fun _ => ?_⟩ <;> first | (exfalso; omega) | skip)
        | fail
      rw [hxi]
      repeat' first
        | fail
      refine CV.loopc ?_
      refine WCv.rounds callees false (α := Nat × (Int → Int → Int)) (fun (t, g) => [(5, .pointer (some ⟨b2, 0, none⟩)), (7, ov), (9, VI x), (26, ov), (27, VI o.length), (28, VI s), (36, sv), (37, VI rest.length), (38, VI t)]) (fun (t, g) Hz => t ≤ rest.length ∧ innF g x (rest.drop t) = innF f x rest ∧ (∀ a b, 0 ≤ g a b ∧ g a b ≤ F.length + s * 7 + t) ∧ Hz.get b2 = some (.cells (tabF g) 111 1) ∧ KeepX b2 Y Hz) (fun (t, g) => rest.length - t) (0, f) (by repeat' first | exact trivial | refine ⟨rfl, ?_⟩ | refine ⟨slot_int (by (try simp only [Int.toNat_natCast]); omega), ?_⟩) ?_ ?_
      · exact ⟨by omega, rfl, fun a b => by have := hfb a b; omega, hty, KeepX.refl _ _⟩
      rintro ⟨t, g⟩ Z ⟨ht, hgf, hgb, htz, kz⟩ hBz
      have lz := kz.1
      have hsz : Ints Z sv rest := Row.keepX hsi kz hty
      by_cases ht2 : t < rest.length
      · have hym : rest[t]! ∈ o := by
          rw [getElem!_pos rest t ht2]
          exact List.mem_of_mem_drop (i := s + 1) (by rw [hrest]; exact List.getElem_mem _)
        have hyr := ho1.r _ hym
        have hyi : rest[(t : Int).toNat]! = rest[t]! := rfl
        rw [drop_at ht2, innF] at hgf
        obtain ⟨y, hy⟩ : ∃ y, rest[t]! = y := ⟨_, rfl⟩
        rw [hy] at hyi hyr hgf
        have hgxy := hgb x y
        repeat' first
          | refine CO.cons rfl ?_
          | refine CO.nil ?_
          | refine CV.seq ?_
          | refine CV.region callees ?_
          | refine CV.cond ?_
          | refine CV.block ?_
          | refine CV.skip ?_
          | refine CV.draw callees (by decide +kernel) ?_
          | refine CH.cons rfl ?_
          | refine ⟨_, ints_addr (by assumption) (by omega) (by omega), ?_⟩
          | refine ⟨_, ints_load (by assumption) (by omega) (by omega), ?_⟩
          | (refine ⟨fun _ => ?_, fun _ => ?_⟩ <;> first | (exfalso; omega) | skip)
          | fail
        rw [hyi]
        repeat' first
          | refine CO.cons rfl ?_
          | refine CH.cons rfl ?_
          | refine CH.nil ?_
          | refine ⟨(⟨by omega, by omega⟩ : inI64 _), ?_⟩
          | (refine ⟨_, arr77 (by omega) (by omega), ?_⟩)
          | (refine ⟨_, arr7 (by omega) (by omega), ?_⟩)
          | (refine ⟨_, cell_load ag3 htz (tabF_at (x := x) (y := y) (by omega) (by omega) (by omega) (by omega) (by omega)), ?_⟩)
          | fail
        refine ⟨_, _, store_row (i := 0 + x.toNat * 7 + y.toNat * 1) sz3 htz (by rw [tabF_len]; omega) rfl, by omega, ?_⟩
        rw [tabF_set (by omega) (by omega) (by omega) (by omega) (by omega)]
        generalize hs9 : Heap.set Z b2 _ = H9
        have hg9 : H9.get b2 = some (.cells (tabF (upd g x y)) 111 1) := set_get hs9
        have n9 := set_n hs9
        have o9 := set_old hs9
        repeat' first
          | refine CO.cons rfl ?_
          | refine CO.nil ?_
          | refine CV.region callees ?_
          | refine CH.nil ?_
          | refine ⟨(⟨by omega, by omega⟩ : inI64 _), ?_⟩
          | fail
        refine ⟨(t + 1, upd g x y), (by repeat' first | exact trivial | refine ⟨rfl, ?_⟩ | refine ⟨slot_int (by (try simp only [Int.toNat_natCast]); omega), ?_⟩), (by (try dsimp only); omega), ?_⟩
        refine ⟨by omega, hgf, fun a b => ?_, hg9, ⟨by omega, fun q hq hq2 => (o9 q hq2).trans (kz.2 q hq hq2)⟩⟩
        have := hgb a b
        unfold upd
        split <;> omega
      obtain rfl : t = rest.length := by omega
      rw [List.drop_length, innF] at hgf
      repeat' first
        | refine CO.cons rfl ?_
        | refine CO.nil ?_
        | refine CV.seq ?_
        | refine CV.region callees ?_
        | refine CV.cond ?_
        | refine CV.exit ?_
        | refine ⟨(⟨by omega, by omega⟩ : inI64 _), ?_⟩
        | (refine ⟨fun _ => ?_, fun _ => ?_⟩ <;> first | (exfalso; omega) | skip)
        | fail
      refine ⟨(s + 1, g), (by repeat' first | exact trivial | refine ⟨rfl, ?_⟩ | refine ⟨slot_int (by (try simp only [Int.toNat_natCast]); omega), ?_⟩), (by (try dsimp only); omega), ?_⟩
      refine ⟨by omega, by rw [hrest, hgf]; exact hf, fun a b => ?_, htz, ky.trans kz⟩
      have := hgb a b
      omega
    obtain rfl : s = o.length := by omega
    rw [List.drop_length, outF, outF_cnt ho1.nd] at hf
    rw [hf] at hty
    repeat' first
      | refine CO.cons rfl ?_
      | refine CO.nil ?_
      | refine CV.seq ?_
      | refine CV.region callees ?_
      | refine CV.cond ?_
      | refine CV.exit ?_
      | (refine ⟨fun _ => ?_, fun _ => ?_⟩ <;> first | (exfalso; omega) | skip)
      | fail
    have hold : ∀ q, q < X.n → q ≠ b3 → q ≠ l → q ≠ b2 → Y.get q = X.get q := fun q h0 h1 h2 h3 => (ky.2 q (by omega) h3).trans ((o8 q h1).trans (o7 q h2))
    have hly := (ky.2 l (by omega) (by omega)).trans hl8
    have hcy := (ky.2 b3 (by omega) (by omega)).trans hg8
    refine ⟨_, _, _, _, _, _, _, hly, rfl, ⟨rfl, ⟨?_, ?_, ?_, ?_, ?_, ?_, ?_⟩, ?_, ?_⟩⟩
    · rw [Heap.get_set_eq]; exact hg6.symm
    · rw [Heap.get_set_ne _ _ (by omega), hFs]; exact hcy
    · rw [Heap.get_set_ne _ _ (by omega)]; exact hty
    · rw [Heap.get_set_ne _ _ (by omega)]; exact (hold b0 (by omega) (by omega) (by omega) (by omega)).trans q2p
    · rw [Heap.get_set_ne _ _ (by omega)]; exact (hold pp (by omega) (by omega) (by omega) (by omega)).trans q3
    · exact ⟨by show H.n ≤ Y.n; omega, fun q hq => by rw [Heap.get_set_ne _ _ (by omega)]; exact (hold q (by omega) (by omega) (by omega) (by omega)).trans (q4.2 q hq)⟩
    · show H6.n ≤ Y.n; omega
    · intro q h3 h4
      rw [Heap.get_set_ne _ _ (by omega)]; exact hold q (by omega) (by omega) (by omega) (by omega)
    · show X.n ≤ Y.n; omega
  rintro _ HZ ⟨e, h1, h2, q1, q2, q2t, q2p, q3, q4, q5⟩
  refine ⟨_, _, _, _, _, _, _, q1.trans hg6, rfl, rfl, ?_⟩
  generalize hsZ : HZ.set l _ = HY
  have nZ := set_n hsZ
  have oZ := set_old hsZ
  have hcZ := (oZ b3 (by omega)).trans q2
  have htZ := (oZ b2 (by omega)).trans q2t
  have hPZ := (oZ b0 (by omega)).trans q2p
  have kHY : Keep H HY := ⟨by have := q4.1; omega, fun q hq => (oZ q (by omega)).trans (q4.2 q hq)⟩
  have hbF : ∀ x y, 0 ≤ cnt (okL gs rs) x y ∧ cnt (okL gs rs) x y ≤ (okL gs rs).length := fun x y => cnt_bd
  by_cases hz : (okL gs rs).length = 0
  · repeat' first
      | refine CO.cons rfl ?_
      | refine CO.nil ?_
      | refine CV.seq ?_
      | refine CV.region callees ?_
      | refine CV.cond ?_
      | refine CV.ret ?_
      | (refine ⟨_, cell_load ag3 hcZ rfl, ?_⟩)
      | (refine ⟨fun _ => ?_, fun _ => ?_⟩ <;> first | (exfalso; omega) | skip)
      | fail
    exact ⟨rfl, ⟨_, _, rfl, .inl ⟨List.length_eq_zero_iff.1 hz, rfl, rfl⟩⟩, kHY⟩
  have hne : okL gs rs ≠ [] := fun h => hz (by rw [h]; rfl)
  have hgY := hg.keep kHY
  repeat' first
    | refine CO.cons rfl ?_
    | refine CO.nil ?_
    | refine CV.seq ?_
    | refine CV.region callees ?_
    | refine CV.cond ?_
    | refine CV.skip ?_
    | (refine ⟨_, cell_load ag3 hcZ rfl, ?_⟩)
    | (refine ⟨_, fS foP0 (by decide), ?_⟩)
    | (refine ⟨_, cell_load ag22g hPZ rfl, ?_⟩)
    | (refine ⟨_, gs_len hgY, ?_⟩)
    | (refine ⟨_, _, make_row24 un34 one22 (by decide) gs.length (by omega), ?_⟩)
    | (refine ⟨fun _ => ?_, fun _ => ?_⟩ <;> first | (exfalso; omega) | skip)
    | fail
  generalize hsa : Heap.new HY _ = Ha
  have hga := new_get hsa
  have ka := new_keep hsa
  have na := new_n hsa
  obtain ⟨ba, hbna⟩ : ∃ b, Heap.n HY = b := ⟨_, rfl⟩
  rw [hbna] at hga na ⊢
  have hPa := (ka.2 b0 (by omega)).trans hPZ
  have hTa := (ka.2 b2 (by omega)).trans htZ
  have hCa := (ka.2 b3 (by omega)).trans hcZ
  have kHa := kHY.trans ka
  have hga' := hg.keep kHa
  have hqa : Own 26 Ha (.slice (some ⟨ba, 0, none⟩) gs.length 0) (List.replicate gs.length nilS) HY.n := .inr ⟨ba, by rw [List.length_replicate], by omega, by omega, hga⟩
  repeat' first
    | refine CO.cons rfl ?_
    | refine CO.nil ?_
    | refine CV.block ?_
    | (refine ⟨_, cell_load ag22g hPa rfl, ?_⟩)
    | (refine ⟨_, gs_len hga', ?_⟩)
    | fail
  obtain ⟨q, hq⟩ : ∃ q, Value.slice (some ⟨ba, 0, none⟩) gs.length 0 = q := ⟨_, rfl⟩
  rw [hq] at hqa ⊢
  refine CV.loopc ?_
  refine WCv.rounds callees false (α := Nat × List Value) (fun (i, vs) => [(1, .pointer (some ⟨b0, 0, none⟩)), (5, .pointer (some ⟨b2, 0, none⟩)), (6, .pointer (some ⟨b3, 0, none⟩)), (12, q), (60, VI gs.length), (61, VI i)]) (fun (i, vs) Hz => i ≤ gs.length ∧ vs.length = gs.length ∧ Own 26 Hz q vs HY.n ∧ (∀ a, a < i → Own 3 Hz vs[a]! ((rowV (okL gs rs) (a : Int) gs.length).map VI) HY.n) ∧ (∀ a, i ≤ a → a < gs.length → vs[a]! = nilS) ∧ Keep HY Hz ∧ Ha.n ≤ Hz.n) (fun (i, vs) => gs.length - i) (0, List.replicate gs.length nilS) (by repeat' first | exact trivial | refine ⟨rfl, ?_⟩ | refine ⟨slot_int (by (try simp only [Int.toNat_natCast]); omega), ?_⟩) ?_ ?_
  · exact ⟨by omega, by rw [List.length_replicate], hqa, fun a h => by omega, fun a _ h => by rw [getElem!_pos _ a (by rw [List.length_replicate]; exact h), List.getElem_replicate], ka, Nat.le_refl _⟩
  rintro ⟨i, vs⟩ U ⟨hi, hvl, hqu, hru, hnu, ku, lu⟩ hBu
  have hPu := (ku.2 b0 (by omega)).trans hPZ
  have kHu := kHY.trans ku
  have hgu := hg.keep kHu
  by_cases hi2 : i < gs.length
  · repeat' first
      | refine CO.cons rfl ?_
      | refine CO.nil ?_
      | refine CV.seq ?_
      | refine CV.region callees ?_
      | refine CV.cond ?_
      | refine CV.block ?_
      | refine CV.skip ?_
      | (refine ⟨_, fS foP0 (by decide), ?_⟩)
      | (refine ⟨_, cell_load ag22g hPu rfl, ?_⟩)
      | (refine ⟨_, gs_len hgu, ?_⟩)
      | (refine ⟨fun _ => ?_, fun _ => ?_⟩ <;> first | (exfalso; omega) | skip)
      | fail
    refine CV.loopc ?_
    refine WCv.rounds callees false (α := Nat × List Value) (fun (j, ws) => [(1, .pointer (some ⟨b0, 0, none⟩)), (5, .pointer (some ⟨b2, 0, none⟩)), (6, .pointer (some ⟨b3, 0, none⟩)), (12, q), (13, VI i), (60, VI gs.length), (61, VI i), (66, VI gs.length), (67, VI j)]) (fun (j, ws) Hz => j ≤ gs.length ∧ ws.length = gs.length ∧ Own 26 Hz q ws HY.n ∧ (∀ a, a ≠ i → a < gs.length → ws[a]! = vs[a]!) ∧ (∀ a, a < i → Own 3 Hz vs[a]! ((rowV (okL gs rs) (a : Int) gs.length).map VI) HY.n) ∧ Own 3 Hz ws[i]! ((rowV (okL gs rs) (i : Int) j).map VI) U.n ∧ Keep HY Hz ∧ U.n ≤ Hz.n) (fun (j, ws) => gs.length - j) (0, vs) (by repeat' first | exact trivial | refine ⟨rfl, ?_⟩ | refine ⟨slot_int (by (try simp only [Int.toNat_natCast]); omega), ?_⟩) ?_ ?_
    · exact ⟨by omega, hvl, hqu, fun a _ _ => rfl, hru, by rw [hnu i (by omega) hi2]; exact .inl ⟨rfl, rfl⟩, ku, Nat.le_refl _⟩
    rintro ⟨j, ws⟩ V ⟨hj, hwl, hqv, hwv, hrv, hiv, kv, lv⟩ hBv
    have hPv := (kv.2 b0 (by omega)).trans hPZ
    have hTv := (kv.2 b2 (by omega)).trans htZ
    have hCv := (kv.2 b3 (by omega)).trans hcZ
    by_cases hj2 : j < gs.length
    · have hiw : ws[i]? = some ws[i]! := by rw [List.getElem?_eq_getElem (by omega), getElem!_pos ws i (by omega)]
      have hit : (i : Int).toNat = i := by omega
      have kN := fun x : Int => Keep.new V (.cells [VI x] 3 2)
      repeat' first
        | refine CO.cons rfl ?_
        | refine CO.nil ?_
        | refine CV.seq ?_
        | refine CV.region callees ?_
        | refine CV.cond ?_
        | refine CV.block ?_
        | refine CV.skip ?_
        | (refine ⟨fun _ => ?_, fun _ => ?_⟩ <;> first | (exfalso; omega) | skip)
        | fail
      refine CV.wideR callees (by decide +kernel) [(0, []), (1, []), (2, []), (3, []), (4, []), (5, []), (6, []), (7, []), (8, []), (9, []), (10, []), (11, []), (12, [5]), (13, [5]), (14, []), (15, []), (16, [])] (by kernel_rfl) ?_
      repeat' first
        | refine CR.cons ?_
        | (refine ⟨_, Row.addr hqv.row un34 sz26 (by omega) (by omega), ?_⟩)
        | (refine ⟨_, Row.load hqv.row ag22 hiw, ?_⟩)
        | (refine ⟨_, arr77 (by omega) (by omega), ?_⟩)
        | (refine ⟨_, arr7 (by omega) (by omega), ?_⟩)
        | (refine ⟨_, cell_load ag3 hTv (tabF_at (x := (i : Int)) (y := (j : Int)) (by omega) (by omega) (by omega) (by omega) (by omega)), ?_⟩)
        | (refine ⟨_, cell_load ag3 hCv rfl, ?_⟩)
        | fail
      refine (verdict_spec (by omega)).mono ?_
      rintro r V1 ⟨rfl, rfl⟩
      repeat' first
        | refine CR.cons ?_
        | (refine ⟨_, Row.load hqv.row ag22 hiw, ?_⟩)
        | (refine ⟨(rfl : _ = ws[i]!), ?_⟩)
        | (refine ⟨hiv.same, ?_⟩)
        | (refine ⟨_, _, build_one un22 one3 rfl, ?_⟩)
        | fail
      refine push_ask hiv (by omega) (by omega) (by rw [rowV_len]; omega) ?_
      intro y W hy kb hf
      have lw := kb.le
      have hqw : Own 26 W q ws HY.n := Own.keepBut hqv kb (fun c h1 h2 => own_apart hiv hqv c h2 h1)
      repeat' first
        | refine CR.cons ?_
        | (refine ⟨_, Row.addr hqw.row un34 sz26 (by omega) (by omega), ?_⟩)
        | fail
      refine store_ask (i := i) sz26 hqw (by omega) (by omega) (own_oneC hy) ?_
      intro W2 hqw2 kb2
      have lw2 := kb2.le
      have hub : ∀ c, blkOf ws[i]! = some c → U.n ≤ c := fun c hc => (hiv.lt hc).1
      have hqb : ∀ c, blkOf q = some c → HY.n ≤ c := fun c hc => (hqv.lt hc).1
      repeat' first
        | refine CO.cons rfl ?_
        | refine CO.nil ?_
        | refine CV.region callees ?_
        | refine CR.nil ?_
        | refine ⟨(⟨by omega, by omega⟩ : inI64 _), ?_⟩
        | fail
      refine ⟨(j + 1, ws.set i y), (by repeat' first | exact trivial | refine ⟨rfl, ?_⟩ | refine ⟨slot_int (by (try simp only [Int.toNat_natCast]); omega), ?_⟩), (by (try dsimp only); omega), ?_⟩
      refine ⟨by omega, by rw [List.length_set]; exact hwl, hqw2, fun a h1 h2 => ?_, fun a h1 => ?_, ?_, ?_, by omega⟩
      · rw [getElem!_pos (ws.set i y) a (by rw [List.length_set]; omega), List.getElem_set_ne (fun e => h1 e.symm), ← getElem!_pos ws a (by omega)]
        exact hwv a h1 h2
      · have o1 := hrv a h1
        have o0 := hru a h1
        exact own_but (Own.keepBut o1 kb (fun c h2 h3 => by have := (o0.lt h2).2; have := hub c h3; omega)) hqw kb2
      · rw [getElem!_pos (ws.set i y) i (by rw [List.length_set]; omega), List.getElem_set_self, rowV_succ]
        exact own_but hy hqw kb2
      · exact kb2.keep (kb.keep kv (fun c hc => by have := hub c hc; omega)) (fun c hc => hqb c hc)
    obtain rfl : j = gs.length := by omega
    repeat' first
      | refine CO.cons rfl ?_
      | refine CO.nil ?_
      | refine CV.seq ?_
      | refine CV.region callees ?_
      | refine CV.cond ?_
      | refine CV.exit ?_
      | refine ⟨(⟨by omega, by omega⟩ : inI64 _), ?_⟩
      | (refine ⟨fun _ => ?_, fun _ => ?_⟩ <;> first | (exfalso; omega) | skip)
      | fail
    refine ⟨(i + 1, ws), (by repeat' first | exact trivial | refine ⟨rfl, ?_⟩ | refine ⟨slot_int (by (try simp only [Int.toNat_natCast]); omega), ?_⟩), (by (try dsimp only); omega), ?_⟩
    refine ⟨by omega, hwl, hqv, fun a h1 => ?_, fun a h1 h2 => ?_, kv, by omega⟩
    · by_cases e : a = i
      · rw [e]; exact Own.lower hiv (by omega)
      · rw [hwv a e (by omega)]; exact hrv a (by omega)
    · rw [hwv a (by omega) h2]; exact hnu a (by omega) h2
  obtain rfl : i = gs.length := by omega
  repeat' first
    | refine CO.cons rfl ?_
    | refine CO.nil ?_
    | refine CV.seq ?_
    | refine CV.region callees ?_
    | refine CV.cond ?_
    | refine CV.exit ?_
    | refine CV.ret ?_
    | (refine ⟨fun _ => ?_, fun _ => ?_⟩ <;> first | (exfalso; omega) | skip)
    | fail
  refine ⟨by simp only [List.all_cons, List.all_nil, hqu.notTuple]; rfl, ⟨_, _, rfl, .inr ⟨hne, rfl, vs, ⟨Own.lower hqu (by have := kHY.1; omega), by rw [List.length_map, List.length_range]; exact hvl, fun a h => ?_⟩⟩⟩, kHu⟩
  rw [List.length_map, List.length_range] at h
  rw [map_at (by rw [List.length_range]; exact h)]
  have e : (List.range gs.length)[a]! = a := by rw [getElem!_pos _ a (by rw [List.length_range]; exact h), List.getElem_range]
  rw [e]
  exact Own.lower (hru a h) (by omega)
end Go.Proofs.Ytlamceokhbigaaa
