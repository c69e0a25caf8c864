
/- The kit's party with other numbers. -/
import Derived.Test.Ytlamceokhbigaaaw0g
import Derived.Test.Ytlamceokhbigaaav4g
set_option linter.unusedVariables false
set_option linter.unusedSimpArgs false
namespace Go.Proofs.Ytlamceokhbigaaa
open Go.AI
theorem nmd_gs {gs gs' : List Gu} {s : List Int} (h : Nmd gs gs' s) (hg : GsOk gs) : GsOk gs' := by
  have hex : ∀ j, j < gs'.length → ∃ i, i < gs.length ∧ s[i]! = (j : Int) ∧ gs'[j]! = gs[i]! := fun j hj => by
    have hm := h.f.all (show j < gs.length by rw [← h.l]; exact hj)
    obtain ⟨i, hi, e⟩ := List.getElem_of_mem hm
    have hil : i < gs.length := by have := h.f.l; omega
    have e2 : s[i]! = (j : Int) := by rw [getElem!_pos s i hi, e]
    refine ⟨i, hil, e2, ?_⟩
    have := h.g i hil
    rw [e2] at this
    rw [← this]
    rfl
  refine ⟨fun j hj => ?_, fun a b hab hb => ?_⟩
  · obtain ⟨i, hi, _, e⟩ := hex j hj
    rw [e]
    exact hg.ok i hi
  · obtain ⟨i, hi, e1, e2⟩ := hex a (by omega)
    obtain ⟨j, hj, e3, e4⟩ := hex b hb
    rw [e2, e4]
    rcases Nat.lt_trichotomy i j with c | c | c
    · exact hg.ne i j c hj
    · exfalso; rw [c, e3] at e1; omega
    · exact fun e => hg.ne j i c hi e.symm
set_option maxHeartbeats 32000000 in
set_option maxRecDepth 100000 in
theorem namedParty_spec {B g0 r0 : Nat} {H : Heap} {gv rv ov : Value} {gs : List Gu} {rs : List Ru} {s : List Int} (hB : B ≤ H.n) (hg : OwnG H gv gs g0) (hr : OwnR H rv rs r0) (hp : PaOk gs rs) (ho : Ints H ov s) (hf : Full gs.length s) :
    CallB Try.prog B 59 [Pav gv rv, ov] H (fun r H' => (∃ c t gs', r = Pav c t ∧ OwnG H' c gs' H.n ∧ OwnR H' t (rs.map (nmR s)) H.n ∧ Nmd gs gs' s ∧ PaOk gs' (rs.map (nmR s))) ∧ Keep H H') := by
  have h7 := hp.n7
  have hm := hp.m
  have hsl := hf.l
  refine CV.enter callees false rfl Try.func59 rfl (by kernel_rfl) (Nat.le_of_ble_eq_true rfl) hB ?_
  repeat' first
    | refine CO.cons rfl ?_
    | refine CV.seq ?_
    | refine CV.region callees ?_
    | fail
  refine ⟨(by simp only [notTuple]), ?_⟩
  rw [boxP hg.row.cells.1 hr.row.cells.1]
  generalize hs0 : Heap.new H _ = H0
  have hg0 := new_get hs0
  have k0 := new_keep hs0
  have n0 := new_n hs0
  obtain ⟨b0, hbn0⟩ : ∃ b, Heap.n H = b := ⟨_, rfl⟩
  rw [hbn0] at hg0 n0 ⊢
  repeat' first
    | refine CO.cons rfl ?_
    | refine CO.nil ?_
    | refine CV.seq ?_
    | refine CV.region callees ?_
    | (refine ⟨_, _, al25, ?_⟩)
    | fail
  generalize hs1 : Heap.new H0 _ = H1
  have hg1 := new_get hs1
  have k1 := new_keep hs1
  have n1 := new_n hs1
  obtain ⟨b1, hbn1⟩ : ∃ b, Heap.n H0 = b := ⟨_, rfl⟩
  rw [hbn1] at hg1 n1 ⊢
  have k01 := k0.trans k1
  have hg01 := (k1.2 b0 (by omega)).trans hg0
  repeat' first
    | refine CO.cons rfl ?_
    | (refine ⟨_, ld25 hg01, ?_⟩)
    | fail
  refine (ownParty_spec (by omega) (OwnS.keep hg k01) (OwnS.keep hr k01) (by omega) (by omega)).mono ?_
  rintro r H2 ⟨⟨c, t, rfl, hc2, ht2, hap⟩, k2⟩
  have l2 := k2.1
  repeat' first
    | refine CO.cons rfl ?_
    | (refine ⟨_, _, al25, ?_⟩)
    | fail
  generalize hs3 : Heap.new H2 _ = H3
  have hg3 := new_get hs3
  have k3 := new_keep hs3
  have n3 := new_n hs3
  obtain ⟨b3, hbn3⟩ : ∃ b, Heap.n H2 = b := ⟨_, rfl⟩
  rw [hbn3] at hg3 n3 ⊢
  repeat' first
    | fail
  refine ⟨_, _, st25 hc2.oneC ht2.oneC hg3, by omega, ?_⟩
  generalize hs4 : Heap.set H3 b3 _ = H4
  have hg4 : H4.get b3 = some (.cells (Pal c t) 25 1) := set_get hs4
  have n4 := set_n hs4
  have o4 := set_old hs4
  have k24 : Keep H2 H4 := keep_put k3 (by omega) o4 n4
  have k04 : Keep H H4 := (k01.trans k2).trans k24
  have l4 := k24.1
  have hP4 := (k24.2 b0 (by omega)).trans ((k2.2 b0 (by omega)).trans hg01)
  have hz4 := (k24.2 b1 (by omega)).trans ((k2.2 b1 (by omega)).trans hg1)
  have hcb : ∀ q, blkOf c = some q → H1.n ≤ q ∧ q < H2.n := fun q hq => hc2.lt hq
  have htb : ∀ q, blkOf t = some q → H1.n ≤ q ∧ q < H2.n := fun q hq => ht2.lt hq
  repeat' first
    | refine CO.cons rfl ?_
    | refine CO.nil ?_
    | refine CV.seq ?_
    | refine CV.region callees ?_
    | refine CV.block ?_
    | fail
  refine CV.loopc ?_
  refine WCv.rounds callees false (α := Nat × List Gu) (fun (i, ls) => [(1, ov), (2, .pointer (some ⟨b0, 0, none⟩)), (4, .pointer (some ⟨b1, 0, none⟩)), (5, .pointer (some ⟨b3, 0, none⟩)), (6, VI i)]) (fun (i, ls) Hz => i ≤ gs.length ∧ (ls.length = gs.length ∧ ∀ j, j < i → ls[s[j]!.toNat]! = gs[j]!) ∧ OwnG Hz c ls H1.n ∧ OwnR Hz t rs H1.n ∧ Hz.get b3 = some (.cells (Pal c t) 25 1) ∧ Hz.get b0 = H4.get b0 ∧ Hz.get b1 = H4.get b1 ∧ Keep H Hz ∧ H4.n ≤ Hz.n) (fun (i, ls) => gs.length - i) (0, gs) (by repeat' first | exact trivial | refine ⟨rfl, ?_⟩ | refine ⟨slot_int (by (try simp only [Int.toNat_natCast]); omega), ?_⟩) ?_ ?_
  · exact ⟨by omega, ⟨rfl, fun j hj => by omega⟩, OwnS.keep hc2 k24, OwnS.keep ht2 k24, hg4, rfl, rfl, k04, Nat.le_refl _⟩
  rintro ⟨i, ls⟩ Hx ⟨hi, ⟨hll, hls⟩, hcx, htx, hgx, hPx, hzx, kx, lx⟩ hBx
  have hox : Ints Hx ov s := Row.keep ho kx
  have hgvx : OwnG Hx gv gs g0 := OwnS.keep hg kx
  have hPx2 := hPx.trans hP4
  by_cases hi2 : i < gs.length
  · have hb := (hf.at (x := (i : Int)) (by omega) (by omega)).2
    have hxi : s[(i : Int).toNat]! = s[i]! := rfl
    rw [hxi] at hb
    have hk : s[i]!.toNat < (ls.map Gul).length := by rw [List.length_map]; omega
    repeat' first
      | refine CO.cons rfl ?_
      | refine CO.nil ?_
      | refine CV.seq ?_
      | refine CV.region callees ?_
      | refine CV.cond ?_
      | refine CV.block ?_
      | refine CV.skip ?_
      | refine CV.draw callees (by decide +kernel) ?_
      | refine CH.cons rfl ?_
      | refine CH.nil ?_
      | refine ⟨_, ints_addr (by assumption) (by omega) (by omega), ?_⟩
      | refine ⟨_, ints_load (by assumption) (by omega) (by omega), ?_⟩
      | (refine ⟨_, fS foP0 (by decide), ?_⟩)
      | (refine ⟨_, cell_load ag22g hgx rfl, ?_⟩)
      | (refine ⟨_, cell_load ag22g hPx2 rfl, ?_⟩)
      | (refine ⟨_, gs_len hgvx.row, ?_⟩)
      | (refine ⟨_, gs_addr hgvx.row (by omega) (by omega), ?_⟩)
      | (refine ⟨_, gs_load hgvx.row hi2, ?_⟩)
      | (refine ⟨_, gs_addr hcx.row (by omega) (by omega), ?_⟩)
      | (refine ⟨fun _ => ?_, fun _ => ?_⟩ <;> first | (exfalso; omega) | skip)
      | fail
    refine rstore_askS (row := Gul gs[i]!) sz68 hcx (by omega) hk rfl rfl ?_
    intro Ha hca0 kba
    have la := kba.le
    have hset : (ls.map Gul).set s[i]!.toNat (Gul gs[i]!) = (ls.set s[i]!.toNat gs[i]!).map Gul := by rw [List.map_set]
    have hca : OwnG Ha c (ls.set s[i]!.toNat gs[i]!) H1.n := by rw [OwnG, ← hset]; exact hca0
    repeat' first
      | refine CO.cons rfl ?_
      | refine CO.nil ?_
      | refine CV.region callees ?_
      | refine CH.nil ?_
      | refine ⟨(⟨by omega, by omega⟩ : inI64 _), ?_⟩
      | fail
    refine ⟨(i + 1, ls.set s[i]!.toNat gs[i]!), (by repeat' first | exact trivial | refine ⟨rfl, ?_⟩ | refine ⟨slot_int (by (try simp only [Int.toNat_natCast]); omega), ?_⟩), (by (try dsimp only); omega), ?_⟩
    refine ⟨by omega, ⟨by rw [List.length_set]; exact hll, fun j hj => ?_⟩, hca, ownS_keepBt htx kba (fun q h1 h2 => hap q h1 h2), (kba.get b3 (by omega) (fun h => by have := hcb _ h; omega)).trans hgx, (kba.get b0 (by omega) (fun h => by have := hcb _ h; omega)).trans hPx, (kba.get b1 (by omega) (fun h => by have := hcb _ h; omega)).trans hzx, kba.keep kx (fun q hq => by have := hcb _ hq; omega), by omega⟩
    have hbj := (hf.at (x := (j : Int)) (by omega) (by omega)).2
    have hbj2 : 0 ≤ s[j]! ∧ s[j]! < gs.length := hbj
    rw [getElem!_pos _ s[j]!.toNat (by rw [List.length_set]; omega), List.getElem_set]
    by_cases e : s[i]!.toNat = s[j]!.toNat
    · rw [if_pos e]
      have : (i : Int) = (j : Int) := hf.inj (by omega) (by omega) (by omega) (by omega) (by (show s[i]! = s[j]!); omega)
      rw [show i = j by omega]
    · rw [if_neg e]
      have hji : j ≠ i := fun h => e (by rw [h])
      have := hls j (by omega)
      rwa [getElem!_pos ls s[j]!.toNat (by omega)] at this
  obtain rfl : i = gs.length := by omega
  have hgvx2 := hgvx
  obtain ⟨gs', hgs'⟩ : ∃ g, ls = g := ⟨_, rfl⟩
  rw [hgs'] at hll hls hcx
  have hN : Nmd gs gs' s := ⟨hf, hll, hls⟩
  repeat' first
    | refine CO.cons rfl ?_
    | refine CO.nil ?_
    | refine CV.seq ?_
    | refine CV.region callees ?_
    | refine CV.cond ?_
    | refine CV.block ?_
    | refine CV.exit ?_
    | (refine ⟨_, fS foP0 (by decide), ?_⟩)
    | (refine ⟨_, cell_load ag22g hPx2 rfl, ?_⟩)
    | (refine ⟨_, gs_len hgvx.row, ?_⟩)
    | (refine ⟨fun _ => ?_, fun _ => ?_⟩ <;> first | (exfalso; omega) | skip)
    | fail
  refine CV.loopc ?_
  refine WCv.rounds callees false (α := Nat × List Ru) (fun (i, ls) => [(1, ov), (2, .pointer (some ⟨b0, 0, none⟩)), (4, .pointer (some ⟨b1, 0, none⟩)), (5, .pointer (some ⟨b3, 0, none⟩)), (7, VI i)]) (fun (i, ls) Hz => i ≤ rs.length ∧ (ls.length = rs.length ∧ ∀ j, j < rs.length → ls[j]! = if j < i then nmR s rs[j]! else rs[j]!) ∧ OwnG Hz c gs' H1.n ∧ OwnR Hz t ls H1.n ∧ Hz.get b3 = some (.cells (Pal c t) 25 1) ∧ Hz.get b1 = H4.get b1 ∧ Keep H Hz ∧ H4.n ≤ Hz.n) (fun (i, ls) => rs.length - i) (0, rs) (by repeat' first | exact trivial | refine ⟨rfl, ?_⟩ | refine ⟨slot_int (by (try simp only [Int.toNat_natCast]); omega), ?_⟩) ?_ ?_
  · exact ⟨by omega, ⟨rfl, fun j _ => by rw [if_neg (by omega)]⟩, hcx, htx, hgx, hzx, kx, lx⟩
  clear hcx htx hgx hzx kx lx hox hgvx hgvx2 hPx hPx2 hBx
  rintro ⟨i, ls⟩ Hy ⟨hi, ⟨hll2, hls2⟩, hcy, hty, hgy, hqy, ky, ly⟩ hBy
  have hoy : Ints Hy ov s := Row.keep ho ky
  by_cases hi2 : i < rs.length
  · have hil : i < ls.length := by omega
    have hle : ls[i]! = rs[i]! := by rw [hls2 i hi2, if_neg (by omega)]
    have hk : ls[(i : Int).toNat]!.kd = ls[i]!.kd := rfl
    have hro := hp.rk i hi2
    rw [← hle] at hro
    have k1r := hro.k1
    have k6r := hro.k6
    have fin : ∀ {Ha : Heap} {y : Ru}, OwnR Ha t (ls.set i y) H1.n → y = nmR s ls[i]! → KeepBut t Hy Ha → i + 1 ≤ rs.length ∧ ((ls.set i y).length = rs.length ∧ ∀ j, j < rs.length → (ls.set i y)[j]! = if j < i + 1 then nmR s rs[j]! else rs[j]!) ∧ OwnG Ha c gs' H1.n ∧ OwnR Ha t (ls.set i y) H1.n ∧ Ha.get b3 = some (.cells (Pal c t) 25 1) ∧ Ha.get b1 = H4.get b1 ∧ Keep H Ha ∧ H4.n ≤ Ha.n := fun {Ha y} h1 h2 kba =>
      ⟨by omega, upd_at hll2 hi2 (by rw [h2, hle]) hls2, ownS_keepBt hcy kba (fun q h3 h4 => hap q h4 h3), h1, (kba.get b3 (by omega) (fun h => by have := htb _ h; omega)).trans hgy, (kba.get b1 (by omega) (fun h => by have := htb _ h; omega)).trans hqy, kba.keep ky (fun q hq => by have := htb _ hq; omega), Nat.le_trans ly kba.le⟩
    obtain ⟨x, hx⟩ : ∃ x, ls[i]! = x := ⟨_, rfl⟩
    obtain ⟨kd, a, bb, wt⟩ := x
    rw [hx] at hro k1r k6r
    have k1r : 1 ≤ kd := k1r
    have k6r : kd ≤ 6 := k6r
    have hl0 : aload Try.prog 3 Hy (fieldOf (elemS t 4 i) 0) = some (VI kd) := ru_l hty.row (o := 0) hil (by rw [hx]; rfl)
    have hl1 : aload Try.prog 3 Hy (fieldOf (elemS t 4 i) 1) = some (VI a) := ru_l hty.row (o := 1) hil (by rw [hx]; rfl)
    have hl2 : aload Try.prog 3 Hy (fieldOf (elemS t 4 i) 2) = some (VI bb) := ru_l hty.row (o := 2) hil (by rw [hx]; rfl)
    obtain ⟨nm, enm, hnm⟩ := nmd_cases kd
    by_cases c5 : kd ≤ 5
    rotate_left
    · have et : nmR s ls[i]! = ls[i]! := by
        rw [hx]; unfold nmR
        rw [if_neg (show ¬ kd ≤ 3 by omega), if_neg (show ¬ kd ≤ 5 from c5)]
      have hss : ls.set i ls[i]! = ls := by rw [getElem!_pos ls i hil, List.set_getElem_self]
      repeat' first
        | refine CO.cons rfl ?_
        | refine CO.nil ?_
        | refine CV.seq ?_
        | refine CV.region callees ?_
        | refine CV.cond ?_
        | refine CV.block ?_
        | refine CV.skip ?_
        | (refine ⟨_, fS foP1 (by decide), ?_⟩)
        | (refine ⟨_, cell_load ag23r hgy rfl, ?_⟩)
        | (refine ⟨_, rs_len hty.row, ?_⟩)
        | (refine ⟨_, rs_addr hty.row (by omega) (by omega), ?_⟩)
        | (refine ⟨_, ru_nil hty.row hil, ?_⟩)
        | (refine ⟨_, ru_f hty.row foR0 (by decide) hil, ?_⟩)
        | (refine ⟨_, hl0, ?_⟩)
        | (refine ⟨fun _ => ?_, fun _ => ?_⟩ <;> first | (exfalso; omega) | skip)
        | fail
      refine (named_spec (by omega) ⟨k1r, k6r⟩).mono ?_
      rw [enm]
      rintro r1 H7 ⟨rfl, rfl⟩
      repeat' first
        | refine CO.cons rfl ?_
        | refine CO.nil ?_
        | refine CV.seq ?_
        | refine CV.region callees ?_
        | refine CV.cond ?_
        | refine CV.skip ?_
        | (refine ⟨_, ru_nil hty.row hil, ?_⟩)
        | (refine ⟨_, ru_f hty.row foR0 (by decide) hil, ?_⟩)
        | (refine ⟨_, hl0, ?_⟩)
        | (refine ⟨fun _ => ?_, fun _ => ?_⟩ <;> first | (exfalso; omega) | skip)
        | fail
      refine (named_spec (by omega) ⟨k1r, k6r⟩).mono ?_
      rw [enm]
      rintro r1 H8 ⟨rfl, rfl⟩
      repeat' first
        | refine CO.cons rfl ?_
        | refine CO.nil ?_
        | refine CV.region callees ?_
        | refine CV.cond ?_
        | refine CV.skip ?_
        | refine ⟨(⟨by omega, by omega⟩ : inI64 _), ?_⟩
        | (refine ⟨fun _ => ?_, fun _ => ?_⟩ <;> first | (exfalso; omega) | skip)
        | fail
      refine ⟨(i + 1, ls.set i ls[i]!), (by repeat' first | exact trivial | refine ⟨rfl, ?_⟩ | refine ⟨slot_int (by (try simp only [Int.toNat_natCast]); omega), ?_⟩), (by (try dsimp only); omega), ?_⟩
      exact fin (by rw [hss]; exact hty) et.symm (KeepBut.refl _ _)
    have ha := hro.a c5
    have ha1 : 0 ≤ a := ha.1
    have ha2 : a < gs.length := ha.2
    have hat : a.toNat < s.length := by omega
    repeat' first
      | refine CO.cons rfl ?_
      | refine CO.nil ?_
      | refine CV.seq ?_
      | refine CV.region callees ?_
      | refine CV.cond ?_
      | refine CV.block ?_
      | refine CV.skip ?_
      | (refine ⟨_, fS foP1 (by decide), ?_⟩)
      | (refine ⟨_, cell_load ag23r hgy rfl, ?_⟩)
      | (refine ⟨_, rs_len hty.row, ?_⟩)
      | (refine ⟨_, rs_addr hty.row (by omega) (by omega), ?_⟩)
      | (refine ⟨_, ru_nil hty.row hil, ?_⟩)
      | (refine ⟨_, ru_f hty.row foR0 (by decide) hil, ?_⟩)
      | (refine ⟨_, hl0, ?_⟩)
      | (refine ⟨fun _ => ?_, fun _ => ?_⟩ <;> first | (exfalso; omega) | skip)
      | fail
    refine (named_spec (by omega) ⟨k1r, k6r⟩).mono ?_
    rw [enm]
    rintro r1 H7 ⟨rfl, rfl⟩
    repeat' first
      | refine CO.cons rfl ?_
      | refine CO.nil ?_
      | refine CV.region callees ?_
      | refine CV.cond ?_
      | refine ⟨_, ints_addr (by assumption) (by omega) (by omega), ?_⟩
      | refine ⟨_, ints_load (by assumption) (by omega) (by omega), ?_⟩
      | (refine ⟨_, ru_nil hty.row hil, ?_⟩)
      | (refine ⟨_, ru_f hty.row foR1 (by decide) hil, ?_⟩)
      | (refine ⟨_, hl1, ?_⟩)
      | (refine ⟨fun _ => ?_, fun _ => ?_⟩ <;> first | (exfalso; omega) | skip)
      | fail
    refine fstore_askS (r := Rul ls[i]!) (j := i) (o := 1) (w := VI s[a.toNat]!) sz3 hty (by omega) (ru_at hil) (by decide) rfl ?_
    intro Ha hta0 kba
    have la := kba.le
    obtain ⟨ya, hya⟩ : ∃ y : Ru, y = ⟨kd, s[a.toNat]!, bb, wt⟩ := ⟨_, rfl⟩
    have hset : (ls.map Rul).set i ((Rul ls[i]!).set 1 (VI s[a.toNat]!)) = (ls.set i ya).map Rul := by rw [List.map_set, hya, hx]; rfl
    have hta : OwnR Ha t (ls.set i ya) H1.n := by rw [OwnR, ← hset]; exact hta0
    have hil2 : i < (ls.set i ya).length := by rw [List.length_set]; exact hil
    have hat2 : (ls.set i ya)[i]! = ya := by rw [getElem!_pos (ls.set i ya) i hil2, List.getElem_set_self]
    have hl0a : aload Try.prog 3 Ha (fieldOf (elemS t 4 i) 0) = some (VI kd) := ru_l hta.row (o := 0) hil2 (by rw [hat2, hya]; rfl)
    have hl2a : aload Try.prog 3 Ha (fieldOf (elemS t 4 i) 2) = some (VI bb) := ru_l hta.row (o := 2) hil2 (by rw [hat2, hya]; rfl)
    have hoa : Ints Ha ov s := Row.keep ho (kba.keep ky (fun q hq => by have := htb _ hq; omega))
    repeat' first
      | refine CO.cons rfl ?_
      | refine CO.nil ?_
      | refine CV.seq ?_
      | refine CV.region callees ?_
      | (refine ⟨_, ru_nil hta.row hil2, ?_⟩)
      | (refine ⟨_, ru_f hta.row foR0 (by decide) hil2, ?_⟩)
      | (refine ⟨_, hl0a, ?_⟩)
      | fail
    refine (named_spec (by omega) ⟨k1r, k6r⟩).mono ?_
    rw [enm]
    rintro r1 H8 ⟨rfl, rfl⟩
    by_cases c3 : kd ≤ 3
    rotate_left
    · have et : nmR s ls[i]! = ya := by
        rw [hx, hya]; unfold nmR
        rw [if_neg (show ¬ kd ≤ 3 from c3), if_pos (show kd ≤ 5 from c5)]
      repeat' first
        | refine CO.cons rfl ?_
        | refine CO.nil ?_
        | refine CV.region callees ?_
        | refine CV.cond ?_
        | refine CV.skip ?_
        | refine ⟨(⟨by omega, by omega⟩ : inI64 _), ?_⟩
        | (refine ⟨fun _ => ?_, fun _ => ?_⟩ <;> first | (exfalso; omega) | skip)
        | fail
      refine ⟨(i + 1, ls.set i ya), (by repeat' first | exact trivial | refine ⟨rfl, ?_⟩ | refine ⟨slot_int (by (try simp only [Int.toNat_natCast]); omega), ?_⟩), (by (try dsimp only); omega), ?_⟩
      exact fin hta et.symm kba
    have hbb := hro.b c3
    have hb1 : 0 ≤ bb := hbb.1
    have hb2 : bb < gs.length := hbb.2.1
    repeat' first
      | refine CO.cons rfl ?_
      | refine CO.nil ?_
      | refine CV.region callees ?_
      | refine CV.cond ?_
      | refine ⟨_, ints_addr (by assumption) (by omega) (by omega), ?_⟩
      | refine ⟨_, ints_load (by assumption) (by omega) (by omega), ?_⟩
      | (refine ⟨_, ru_nil hta.row hil2, ?_⟩)
      | (refine ⟨_, ru_f hta.row foR2 (by decide) hil2, ?_⟩)
      | (refine ⟨_, hl2a, ?_⟩)
      | (refine ⟨fun _ => ?_, fun _ => ?_⟩ <;> first | (exfalso; omega) | skip)
      | fail
    refine fstore_askS (r := Rul (ls.set i ya)[i]!) (j := i) (o := 2) (w := VI s[bb.toNat]!) sz3 hta (by omega) (ru_at hil2) (by decide) rfl ?_
    intro Hb htb0 kbb
    obtain ⟨yb, hyb⟩ : ∃ y : Ru, y = ⟨kd, s[a.toNat]!, s[bb.toNat]!, wt⟩ := ⟨_, rfl⟩
    have hset2 : ((ls.set i ya).map Rul).set i ((Rul (ls.set i ya)[i]!).set 2 (VI s[bb.toNat]!)) = (ls.set i yb).map Rul := by
      rw [hat2, show ls.set i yb = (ls.set i ya).set i yb by rw [List.set_set]]
      generalize ls.set i ya = l2
      rw [List.map_set, hyb, hya]
      rfl
    have htc : OwnR Hb t (ls.set i yb) H1.n := by rw [OwnR, ← hset2]; exact htb0
    have et : nmR s ls[i]! = yb := by
      rw [hx, hyb]; unfold nmR
      rw [if_pos (show kd ≤ 3 from c3)]
    repeat' first
      | refine CO.cons rfl ?_
      | refine CO.nil ?_
      | refine CV.region callees ?_
      | refine ⟨(⟨by omega, by omega⟩ : inI64 _), ?_⟩
      | fail
    refine ⟨(i + 1, ls.set i yb), (by repeat' first | exact trivial | refine ⟨rfl, ?_⟩ | refine ⟨slot_int (by (try simp only [Int.toNat_natCast]); omega), ?_⟩), (by (try dsimp only); omega), ?_⟩
    exact fin htc et.symm (kba.trans kbb)
  obtain rfl : ls = rs.map (nmR s) := upd_end hll2 (by omega) hls2
  have hrl : (rs.map (nmR s)).length = rs.length := by rw [List.length_map]
  repeat' first
    | refine CO.cons rfl ?_
    | refine CO.nil ?_
    | refine CV.seq ?_
    | refine CV.region callees ?_
    | refine CV.cond ?_
    | refine CV.exit ?_
    | (refine ⟨_, fS foP1 (by decide), ?_⟩)
    | (refine ⟨_, cell_load ag23r hgy rfl, ?_⟩)
    | (refine ⟨_, rs_len hty.row, ?_⟩)
    | (refine ⟨_, ld25 hgy, ?_⟩)
    | (refine ⟨fun _ => ?_, fun _ => ?_⟩ <;> first | (exfalso; omega) | skip)
    | fail
  refine ⟨_, _, st25 hcy.oneC hty.oneC (hqy.trans hz4), by omega, ?_⟩
  generalize hsz : Heap.set Hy b1 _ = Hz
  have hgz : Hz.get b1 = some (.cells (Pal c t) 25 1) := set_get hsz
  have nz := set_n hsz
  have oz := set_old hsz
  have kz : KeepX b1 Hy Hz := ⟨by omega, fun x _ hx => oz x hx⟩
  have hp' : PaOk gs' (rs.map (nmR s)) := by
    refine ⟨by rw [hll]; exact hp.n1, by rw [hll]; exact hp.n7, nmd_gs hN hp.gk, by rw [hrl]; exact hm, fun j hj => ?_⟩
    rw [hrl] at hj
    rw [map_at hj, hll]
    exact nmR_ok hf (hp.rk j hj)
  repeat' first
    | refine CO.nil ?_
    | refine CV.ret ?_
    | fail
  exact ⟨_, ld25 hgz, rfl, ⟨c, t, gs', rfl, OwnS.low (OwnS.keepX hcy kz (hqy.trans hz4)) (by omega), OwnS.low (OwnS.keepX hty kz (hqy.trans hz4)) (by omega), hN, hp'⟩, keep_put ky (by omega) oz nz⟩
end Go.Proofs.Ytlamceokhbigaaa

