
/- The kit's turned party. -/
import Derived.Test.YtlamceokhbigaaaTkg
set_option linter.unusedVariables false
set_option linter.unusedSimpArgs false
namespace Go.Proofs.Ytlamceokhbigaaa
open Go.AI
theorem ls_rest {α : Type} [Inhabited α] {f : α → α} {ls gs : List α} {i : Nat} (hi : i < gs.length) (h : ∀ j, j < gs.length → ls[j]! = if j < i then f gs[j]! else gs[j]!) : ls[i]! = gs[i]! := by
  rw [h i hi, if_neg (Nat.lt_irrefl _)]
set_option maxHeartbeats 16000000 in
set_option maxRecDepth 100000 in
theorem turnedParty_spec {B g0 r0 : Nat} {H : Heap} {gv rv : Value} {gs : List Gu} {rs : List Ru} (hB : B ≤ H.n) (hc : OwnG H gv gs g0) (ht : OwnR H rv rs r0) (hp : PaOk gs rs) :
    CallB Try.prog B 58 [Pav gv rv] H (fun r H' => (∃ c t, r = Pav c t ∧ OwnG H' c (gs.map turnG) H.n ∧ OwnR H' t (rs.map turnR) H.n) ∧ Keep H H') := by
  have h7 := hp.n7
  have hm := hp.m
  refine CV.enter callees false rfl Try.func58 rfl (by kernel_rfl) (Nat.le_of_ble_eq_true rfl) hB ?_
  repeat' first
    | refine CO.cons rfl ?_
    | refine CV.seq ?_
    | refine CV.region callees ?_
    | fail
  refine ⟨(by simp only [notTuple]), ?_⟩
  rw [boxP hc.row.cells.1 ht.row.cells.1]
  generalize hs0 : Heap.new H _ = H0
  have hg0 := new_get hs0
  have k0 := new_keep hs0
  have n0 := new_n hs0
  obtain ⟨b0, hbn0⟩ : ∃ b, Heap.n H = b := ⟨_, rfl⟩
  rw [hbn0] at hg0 n0 ⊢
  repeat' first
    | refine CO.cons rfl ?_
    | refine CO.nil ?_
    | refine CV.seq ?_
    | refine CV.region callees ?_
    | (refine ⟨_, _, al25, ?_⟩)
    | fail
  generalize hs1 : Heap.new H0 _ = H1
  have hg1 := new_get hs1
  have k1 := new_keep hs1
  have n1 := new_n hs1
  obtain ⟨b1, hbn1⟩ : ∃ b, Heap.n H0 = b := ⟨_, rfl⟩
  rw [hbn1] at hg1 n1 ⊢
  have k01 := k0.trans k1
  have hg01 := (k1.2 b0 (by omega)).trans hg0
  repeat' first
    | refine CO.cons rfl ?_
    | (refine ⟨_, ld25 hg01, ?_⟩)
    | fail
  refine (ownParty_spec (by omega) (OwnS.keep hc k01) (OwnS.keep ht k01) (by omega) (by omega)).mono ?_
  rintro r H2 ⟨⟨c, t, rfl, hc2, ht2, hap⟩, k2⟩
  have l2 := k2.1
  have hg2 := (k2.2 b0 (by omega)).trans hg01
  have hq2 := (k2.2 b1 (by omega)).trans hg1
  repeat' first
    | refine CO.cons rfl ?_
    | fail
  refine ⟨_, _, st25 hc2.oneC ht2.oneC hg2, by omega, ?_⟩
  generalize hs3 : Heap.set H2 b0 _ = H3
  have hg3 : H3.get b0 = some (.cells (Pal c t) 25 1) := set_get hs3
  have n3 := set_n hs3
  have o3 := set_old hs3
  have kx3 : KeepX b0 H2 H3 := ⟨by omega, fun x _ hx => o3 x hx⟩
  have hc3 : OwnG H3 c gs H1.n := OwnS.keepX hc2 kx3 hg2
  have ht3 : OwnR H3 t rs H1.n := OwnS.keepX ht2 kx3 hg2
  have hq3 := (o3 b1 (by omega)).trans hq2
  have k03 : Keep H H3 := keep_put (k01.trans k2) (by omega) o3 n3
  repeat' first
    | refine CO.cons rfl ?_
    | refine CO.nil ?_
    | refine CV.seq ?_
    | refine CV.region callees ?_
    | refine CV.block ?_
    | fail
  refine CV.loopc ?_
  refine WCv.rounds callees false (α := Nat × List Gu) (fun (i, ls) => [(1, .pointer (some ⟨b0, 0, none⟩)), (2, .pointer (some ⟨b1, 0, none⟩)), (3, VI i)]) (fun (i, ls) Hz => i ≤ gs.length ∧ (ls.length = gs.length ∧ ∀ j, j < gs.length → ls[j]! = if j < i then turnG gs[j]! else gs[j]!) ∧ OwnG Hz c ls H1.n ∧ OwnR Hz t rs H1.n ∧ Hz.get b0 = some (.cells (Pal c t) 25 1) ∧ Hz.get b1 = some (.cells (Pal nilS nilS) 25 1) ∧ Keep H Hz ∧ H1.n ≤ Hz.n) (fun (i, ls) => gs.length - i) (0, gs) (by repeat' first | exact trivial | refine ⟨rfl, ?_⟩ | refine ⟨slot_int (by (try simp only [Int.toNat_natCast]); omega), ?_⟩) ?_ ?_
  · exact ⟨by omega, ⟨rfl, fun j _ => by rw [if_neg (by omega)]⟩, hc3, ht3, hg3, hq3, k03, by omega⟩
  rintro ⟨i, ls⟩ Hx ⟨hi, ⟨hll, hls⟩, hcx, htx, hgx, hqx, kx, lx⟩ hBx
  have hcb : ∀ q, blkOf c = some q → H1.n ≤ q := fun q hq => (hcx.lt hq).1
  by_cases hi2 : i < gs.length
  · have hil : i < ls.length := by omega
    have hle := ls_rest hi2 hls
    have hra := (hp.gk.ok i hi2).ra
    have hra' := (hp.gk.ok i hi2).ra'
    rw [← hle] at hra hra'
    have hxi : ls[(i : Int).toNat]!.ra = ls[i]!.ra := rfl
    repeat' first
      | refine CO.cons rfl ?_
      | refine CO.nil ?_
      | refine CV.seq ?_
      | refine CV.region callees ?_
      | refine CV.cond ?_
      | refine CV.block ?_
      | refine CV.skip ?_
      | refine CV.draw callees (by decide +kernel) ?_
      | refine CH.cons rfl ?_
      | refine CH.nil ?_
      | refine ⟨(⟨by omega, by omega⟩ : inI64 _), ?_⟩
      | (refine ⟨_, fS foP0 (by decide), ?_⟩)
      | (refine ⟨_, cell_load ag22g hgx rfl, ?_⟩)
      | (refine ⟨_, gs_len hcx.row, ?_⟩)
      | (refine ⟨_, gs_addr hcx.row (by omega) (by omega), ?_⟩)
      | (refine ⟨_, gs_f hcx.row foG1 (by decide) hil, ?_⟩)
      | (refine ⟨_, gs_ra hcx.row hil, ?_⟩)
      | (refine ⟨fun _ => ?_, fun _ => ?_⟩ <;> first | (exfalso; omega) | skip)
      | fail
    refine fstore_askS (r := Gul ls[i]!) (j := i) (o := 1) (w := VI (9 - ls[i]!.ra)) sz3 hcx (by omega) (gu_at hil) (by decide) rfl ?_
    intro Ha hca0 kba
    have la := kba.le
    have hset : (ls.map Gul).set i ((Gul ls[i]!).set 1 (VI (9 - ls[i]!.ra))) = (ls.set i (turnG ls[i]!)).map Gul := by rw [List.map_set]; rfl
    have hca : OwnG Ha c (ls.set i (turnG ls[i]!)) H1.n := by rw [OwnG, ← hset]; exact hca0
    repeat' first
      | refine CO.cons rfl ?_
      | refine CO.nil ?_
      | refine CV.region callees ?_
      | refine CH.nil ?_
      | refine ⟨(⟨by omega, by omega⟩ : inI64 _), ?_⟩
      | fail
    refine ⟨(i + 1, ls.set i (turnG ls[i]!)), (by repeat' first | exact trivial | refine ⟨rfl, ?_⟩ | refine ⟨slot_int (by (try simp only [Int.toNat_natCast]); omega), ?_⟩), (by (try dsimp only); omega), ?_⟩
    exact ⟨by omega, upd_at hll hi2 (by rw [hle]) hls, hca, ownS_keepBt htx kba (fun q h1 h2 => hap q h1 h2), (kba.get b0 (by omega) (fun h => by have := hcb _ h; omega)).trans hgx, (kba.get b1 (by omega) (fun h => by have := hcb _ h; omega)).trans hqx, kba.keep kx (fun q hq => by have := hcb _ hq; omega), by omega⟩
  obtain rfl : ls = gs.map turnG := upd_end hll (by omega) hls
  have hgl : (gs.map turnG).length = gs.length := by rw [List.length_map]
  repeat' first
    | refine CO.cons rfl ?_
    | refine CO.nil ?_
    | refine CV.seq ?_
    | refine CV.region callees ?_
    | refine CV.cond ?_
    | refine CV.block ?_
    | refine CV.exit ?_
    | (refine ⟨_, fS foP0 (by decide), ?_⟩)
    | (refine ⟨_, cell_load ag22g hgx rfl, ?_⟩)
    | (refine ⟨_, gs_len hcx.row, ?_⟩)
    | (refine ⟨fun _ => ?_, fun _ => ?_⟩ <;> first | (exfalso; omega) | skip)
    | fail
  have hcb2 : ∀ q, blkOf c = some q → q < H2.n := fun q hq => (hc2.lt hq).2
  refine CV.loopc ?_
  refine WCv.rounds callees false (α := Nat × List Ru) (fun (i, ls) => [(1, .pointer (some ⟨b0, 0, none⟩)), (2, .pointer (some ⟨b1, 0, none⟩)), (4, VI i)]) (fun (i, ls) Hz => i ≤ rs.length ∧ (ls.length = rs.length ∧ ∀ j, j < rs.length → ls[j]! = if j < i then turnR rs[j]! else rs[j]!) ∧ OwnG Hz c (gs.map turnG) H1.n ∧ OwnR Hz t ls H1.n ∧ Hz.get b0 = some (.cells (Pal c t) 25 1) ∧ Hz.get b1 = some (.cells (Pal nilS nilS) 25 1) ∧ Keep H Hz ∧ H1.n ≤ Hz.n) (fun (i, ls) => rs.length - i) (0, rs) (by repeat' first | exact trivial | refine ⟨rfl, ?_⟩ | refine ⟨slot_int (by (try simp only [Int.toNat_natCast]); omega), ?_⟩) ?_ ?_
  · exact ⟨by omega, ⟨rfl, fun j _ => by rw [if_neg (by omega)]⟩, hcx, htx, hgx, hqx, kx, lx⟩
  clear hcx htx hgx hqx kx lx hcb
  rintro ⟨i, ls⟩ Hy ⟨hi, ⟨hll, hls⟩, hcy, hty, hgy, hqy, ky, ly⟩ hBy
  have htb : ∀ q, blkOf t = some q → H1.n ≤ q := fun q hq => (hty.lt hq).1
  by_cases hi2 : i < rs.length
  · have hil : i < ls.length := by omega
    have hle := ls_rest hi2 hls
    have hk : ls[(i : Int).toNat]!.kd = ls[i]!.kd := rfl
    have hr := hp.rk i hi2
    have k1r := hr.k1
    have k6r := hr.k6
    rw [← hle] at k1r k6r
    have fin : ∀ {Ha : Heap} {y : Ru}, OwnR Ha t (ls.set i y) H1.n → y = turnR ls[i]! → KeepBut t Hy Ha → i + 1 ≤ rs.length ∧ ((ls.set i y).length = rs.length ∧ ∀ j, j < rs.length → (ls.set i y)[j]! = if j < i + 1 then turnR rs[j]! else rs[j]!) ∧ OwnG Ha c (gs.map turnG) H1.n ∧ OwnR Ha t (ls.set i y) H1.n ∧ Ha.get b0 = some (.cells (Pal c t) 25 1) ∧ Ha.get b1 = some (.cells (Pal nilS nilS) 25 1) ∧ Keep H Ha ∧ H1.n ≤ Ha.n := fun {Ha y} h1 h2 kba =>
      ⟨by omega, upd_at hll hi2 (by rw [h2, hle]) hls, ownS_keepBt hcy kba (fun q h3 h4 => hap q h4 h3), h1, (kba.get b0 (by omega) (fun h => by have := htb _ h; omega)).trans hgy, (kba.get b1 (by omega) (fun h => by have := htb _ h; omega)).trans hqy, kba.keep ky (fun q hq => by have := htb _ hq; omega), Nat.le_trans ly kba.le⟩
    by_cases c1 : ls[i]!.kd = 1
    · have et : turnR ls[i]! = { ls[i]! with a := ls[i]!.b, b := ls[i]!.a } := by unfold turnR; rw [if_pos c1]
      repeat' first
        | refine CO.cons rfl ?_
        | refine CO.nil ?_
        | refine CV.seq ?_
        | refine CV.region callees ?_
        | refine CV.cond ?_
        | refine CV.block ?_
        | refine CV.skip ?_
        | refine CV.draw callees (by decide +kernel) ?_
        | refine CH.cons rfl ?_
        | refine CH.nil ?_
        | (refine ⟨_, fS foP1 (by decide), ?_⟩)
        | (refine ⟨_, cell_load ag23r hgy rfl, ?_⟩)
        | (refine ⟨_, rs_len hty.row, ?_⟩)
        | (refine ⟨_, rs_addr hty.row (by omega) (by omega), ?_⟩)
        | (refine ⟨_, ru_nil hty.row hil, ?_⟩)
        | (refine ⟨_, ru_f hty.row foR0 (by decide) hil, ?_⟩)
        | (refine ⟨_, ru_f hty.row foR1 (by decide) hil, ?_⟩)
        | (refine ⟨_, ru_f hty.row foR2 (by decide) hil, ?_⟩)
        | (refine ⟨_, ru_l hty.row (o := 0) hil rfl, ?_⟩)
        | (refine ⟨_, ru_l hty.row (o := 1) hil rfl, ?_⟩)
        | (refine ⟨_, ru_l hty.row (o := 2) hil rfl, ?_⟩)
        | (refine ⟨fun _ => ?_, fun _ => ?_⟩ <;> first | (exfalso; omega) | skip)
        | fail
      refine fstore_askS (r := Rul ls[i]!) (j := i) (o := 1) (w := VI ls[i]!.b) sz3 hty (by omega) (ru_at hil) (by decide) rfl ?_
      intro Ha hta0 kba
      have la := kba.le
      obtain ⟨ya, hya⟩ : ∃ y : Ru, y = { ls[i]! with a := ls[i]!.b } := ⟨_, rfl⟩
      have hset : (ls.map Rul).set i ((Rul ls[i]!).set 1 (VI ls[i]!.b)) = (ls.set i ya).map Rul := by rw [List.map_set, hya]; rfl
      have hta : OwnR Ha t (ls.set i ya) H1.n := by rw [OwnR, ← hset]; exact hta0
      have hil2 : i < (ls.set i ya).length := by rw [List.length_set]; exact hil
      have hat : (ls.set i ya)[i]! = ya := by rw [getElem!_pos (ls.set i ya) i hil2, List.getElem_set_self]
      repeat' first
        | refine CO.cons rfl ?_
        | (refine ⟨_, ru_nil hta.row hil2, ?_⟩)
        | (refine ⟨_, ru_f hta.row foR2 (by decide) hil2, ?_⟩)
        | fail
      refine fstore_askS (r := Rul (ls.set i ya)[i]!) (j := i) (o := 2) (w := VI ls[i]!.a) sz3 hta (by omega) (ru_at hil2) (by decide) rfl ?_
      intro Hb htb0 kbb
      obtain ⟨yb, hyb⟩ : ∃ y : Ru, y = { ls[i]! with a := ls[i]!.b, b := ls[i]!.a } := ⟨_, rfl⟩
      have hset2 : ((ls.set i ya).map Rul).set i ((Rul (ls.set i ya)[i]!).set 2 (VI ls[i]!.a)) = (ls.set i yb).map Rul := by
        rw [hat, show ls.set i yb = (ls.set i ya).set i yb by rw [List.set_set]]
        generalize ls.set i ya = l2
        rw [List.map_set, hyb, hya]
        rfl
      have htc : OwnR Hb t (ls.set i yb) H1.n := by rw [OwnR, ← hset2]; exact htb0
      repeat' first
        | refine CO.cons rfl ?_
        | refine CO.nil ?_
        | refine CV.region callees ?_
        | refine CH.nil ?_
        | refine ⟨(⟨by omega, by omega⟩ : inI64 _), ?_⟩
        | fail
      refine ⟨(i + 1, ls.set i yb), (by repeat' first | exact trivial | refine ⟨rfl, ?_⟩ | refine ⟨slot_int (by (try simp only [Int.toNat_natCast]); omega), ?_⟩), (by (try dsimp only); omega), ?_⟩
      exact fin htc (by rw [et, hyb]) (kba.trans kbb)
    by_cases c4 : ls[i]!.kd = 4
    · have et : turnR ls[i]! = { ls[i]! with kd := 5 } := by unfold turnR; rw [if_neg c1, if_pos c4]
      repeat' first
        | refine CO.cons rfl ?_
        | refine CO.nil ?_
        | refine CV.seq ?_
        | refine CV.region callees ?_
        | refine CV.cond ?_
        | refine CV.block ?_
        | refine CV.skip ?_
        | (refine ⟨_, fS foP1 (by decide), ?_⟩)
        | (refine ⟨_, cell_load ag23r hgy rfl, ?_⟩)
        | (refine ⟨_, rs_len hty.row, ?_⟩)
        | (refine ⟨_, rs_addr hty.row (by omega) (by omega), ?_⟩)
        | (refine ⟨_, ru_nil hty.row hil, ?_⟩)
        | (refine ⟨_, ru_f hty.row foR0 (by decide) hil, ?_⟩)
        | (refine ⟨_, ru_l hty.row (o := 0) hil rfl, ?_⟩)
        | (refine ⟨fun _ => ?_, fun _ => ?_⟩ <;> first | (exfalso; omega) | skip)
        | fail
      refine fstore_askS (r := Rul ls[i]!) (j := i) (o := 0) (w := VI 5) sz3 hty (by omega) (ru_at hil) (by decide) rfl ?_
      intro Ha hta0 kba
      have hset : (ls.map Rul).set i ((Rul ls[i]!).set 0 (VI 5)) = (ls.set i { ls[i]! with kd := 5 }).map Rul := by rw [List.map_set]; rfl
      have hta : OwnR Ha t (ls.set i { ls[i]! with kd := 5 }) H1.n := by rw [OwnR, ← hset]; exact hta0
      repeat' first
        | refine CO.cons rfl ?_
        | refine CO.nil ?_
        | refine CV.region callees ?_
        | refine ⟨(⟨by omega, by omega⟩ : inI64 _), ?_⟩
        | fail
      refine ⟨(i + 1, ls.set i { ls[i]! with kd := 5 }), (by repeat' first | exact trivial | refine ⟨rfl, ?_⟩ | refine ⟨slot_int (by (try simp only [Int.toNat_natCast]); omega), ?_⟩), (by (try dsimp only); omega), ?_⟩
      exact fin hta et.symm kba
    by_cases c5 : ls[i]!.kd = 5
    · have et : turnR ls[i]! = { ls[i]! with kd := 4 } := by unfold turnR; rw [if_neg c1, if_neg c4, if_pos c5]
      repeat' first
        | refine CO.cons rfl ?_
        | refine CO.nil ?_
        | refine CV.seq ?_
        | refine CV.region callees ?_
        | refine CV.cond ?_
        | refine CV.block ?_
        | refine CV.skip ?_
        | (refine ⟨_, fS foP1 (by decide), ?_⟩)
        | (refine ⟨_, cell_load ag23r hgy rfl, ?_⟩)
        | (refine ⟨_, rs_len hty.row, ?_⟩)
        | (refine ⟨_, rs_addr hty.row (by omega) (by omega), ?_⟩)
        | (refine ⟨_, ru_nil hty.row hil, ?_⟩)
        | (refine ⟨_, ru_f hty.row foR0 (by decide) hil, ?_⟩)
        | (refine ⟨_, ru_l hty.row (o := 0) hil rfl, ?_⟩)
        | (refine ⟨fun _ => ?_, fun _ => ?_⟩ <;> first | (exfalso; omega) | skip)
        | fail
      refine fstore_askS (r := Rul ls[i]!) (j := i) (o := 0) (w := VI 4) sz3 hty (by omega) (ru_at hil) (by decide) rfl ?_
      intro Ha hta0 kba
      have hset : (ls.map Rul).set i ((Rul ls[i]!).set 0 (VI 4)) = (ls.set i { ls[i]! with kd := 4 }).map Rul := by rw [List.map_set]; rfl
      have hta : OwnR Ha t (ls.set i { ls[i]! with kd := 4 }) H1.n := by rw [OwnR, ← hset]; exact hta0
      repeat' first
        | refine CO.cons rfl ?_
        | refine CO.nil ?_
        | refine CV.region callees ?_
        | refine ⟨(⟨by omega, by omega⟩ : inI64 _), ?_⟩
        | fail
      refine ⟨(i + 1, ls.set i { ls[i]! with kd := 4 }), (by repeat' first | exact trivial | refine ⟨rfl, ?_⟩ | refine ⟨slot_int (by (try simp only [Int.toNat_natCast]); omega), ?_⟩), (by (try dsimp only); omega), ?_⟩
      exact fin hta et.symm kba
    · have et : turnR ls[i]! = ls[i]! := by unfold turnR; rw [if_neg c1, if_neg c4, if_neg c5]
      have hss : ls.set i ls[i]! = ls := by rw [getElem!_pos ls i hil, List.set_getElem_self]
      repeat' first
        | refine CO.cons rfl ?_
        | refine CO.nil ?_
        | refine CV.seq ?_
        | refine CV.region callees ?_
        | refine CV.cond ?_
        | refine CV.block ?_
        | refine CV.skip ?_
        | refine ⟨(⟨by omega, by omega⟩ : inI64 _), ?_⟩
        | (refine ⟨_, fS foP1 (by decide), ?_⟩)
        | (refine ⟨_, cell_load ag23r hgy rfl, ?_⟩)
        | (refine ⟨_, rs_len hty.row, ?_⟩)
        | (refine ⟨_, rs_addr hty.row (by omega) (by omega), ?_⟩)
        | (refine ⟨_, ru_nil hty.row hil, ?_⟩)
        | (refine ⟨_, ru_f hty.row foR0 (by decide) hil, ?_⟩)
        | (refine ⟨_, ru_l hty.row (o := 0) hil rfl, ?_⟩)
        | (refine ⟨fun _ => ?_, fun _ => ?_⟩ <;> first | (exfalso; omega) | skip)
        | fail
      refine ⟨(i + 1, ls.set i ls[i]!), (by repeat' first | exact trivial | refine ⟨rfl, ?_⟩ | refine ⟨slot_int (by (try simp only [Int.toNat_natCast]); omega), ?_⟩), (by (try dsimp only); omega), ?_⟩
      exact fin (by rw [hss]; exact hty) et.symm (KeepBut.refl _ _)
  obtain rfl : ls = rs.map turnR := upd_end hll (by omega) hls
  have hrl : (rs.map turnR).length = rs.length := by rw [List.length_map]
  repeat' first
    | refine CO.cons rfl ?_
    | refine CO.nil ?_
    | refine CV.seq ?_
    | refine CV.region callees ?_
    | refine CV.cond ?_
    | refine CV.exit ?_
    | (refine ⟨_, fS foP1 (by decide), ?_⟩)
    | (refine ⟨_, cell_load ag23r hgy rfl, ?_⟩)
    | (refine ⟨_, rs_len hty.row, ?_⟩)
    | (refine ⟨_, ld25 hgy, ?_⟩)
    | (refine ⟨fun _ => ?_, fun _ => ?_⟩ <;> first | (exfalso; omega) | skip)
    | fail
  refine ⟨_, _, st25 hcy.oneC hty.oneC hqy, by omega, ?_⟩
  generalize hsz : Heap.set Hy b1 _ = Hz
  have hgz : Hz.get b1 = some (.cells (Pal c t) 25 1) := set_get hsz
  have nz := set_n hsz
  have oz := set_old hsz
  have kz : KeepX b1 Hy Hz := ⟨by omega, fun x _ hx => oz x hx⟩
  repeat' first
    | refine CO.nil ?_
    | refine CV.ret ?_
    | fail
  exact ⟨_, ld25 hgz, rfl, ⟨_, _, rfl, OwnS.low (OwnS.keepX hcy kz hqy) (by omega), OwnS.low (OwnS.keepX hty kz hqy) (by omega)⟩, keep_put ky (by omega) oz nz⟩
end Go.Proofs.Ytlamceokhbigaaa
