
/- Parties most of whose rules must be kept; some rules alone. -/
import Derived.Test.Ytlamceokhbigaaav0g
import Derived.Test.YtlamceokhbigaaaTfg
import Derived.Test.YtlamceokhbigaaaTkg
set_option linter.unusedVariables false
set_option linter.unusedSimpArgs false
namespace Go.Proofs.Ytlamceokhbigaaa
open Go.AI
theorem gr_apart {H : Heap} {gv rv : Value} {gs : List Gu} {rs : List Ru} {B B' : Nat} (hg : OwnG H gv gs B) (hr : OwnR H rv rs B') : ∀ c, blkOf gv = some c → blkOf rv ≠ some c := by
  intro c h1 h2
  rcases hg.2 with ⟨rfl, _⟩ | ⟨b1, rfl, _, _, e1⟩
  · cases h1
  · rcases hr.2 with ⟨rfl, _⟩ | ⟨b2, rfl, _, _, e2⟩
    · cases h2
    · cases h1
      cases h2
      rw [e1] at e2
      injection e2 with e3
      injection e3 with _ e4 _
      exact absurd e4 (by decide)
theorem set_ok {gs : List Gu} {rs : List Ru} {i : Nat} (hp : PaOk gs rs) (hi : i < rs.length) : PaOk gs (rs.set i (zeR rs[i]!)) := by
  refine ⟨hp.n1, hp.n7, hp.gk, by rw [List.length_set]; exact hp.m, fun j hj => ?_⟩
  rw [List.length_set] at hj
  rw [getElem!_pos _ j (by rw [List.length_set]; exact hj), List.getElem_set]
  by_cases e : i = j
  · rw [if_pos e]
    obtain ⟨a1, a2, a3, a4, a5, a6, _, _⟩ := hp.rk i hi
    exact ⟨a1, a2, a3, a4, a5, a6, Int.le_refl _, by show (0 : Int) ≤ 1000; decide⟩
  · rw [if_neg e]
    have := hp.rk j hj
    rwa [getElem!_pos rs j hj] at this
set_option maxHeartbeats 16000000 in
set_option maxRecDepth 100000 in
theorem strict_spec {B b : Nat} {H : Heap} (hB : B ≤ b) (hn : B ≤ H.n) (hb : Box b H) :
    CallB Try.prog B 36 [bp b] H (fun v H' => (∃ gv rv gs rs, v = Pav gv rv ∧ OwnG H' gv gs H.n ∧ OwnR H' rv rs H.n ∧ PaOk gs rs) ∧ Box b H' ∧ KeepX b H H') := by
  have hbn := hb.1
  refine CV.enter callees false rfl Try.func36 rfl (by kernel_rfl) (Nat.le_of_ble_eq_true rfl) hn ?_
  repeat' first
    | refine CO.cons rfl ?_
    | refine CO.nil ?_
    | refine CV.seq ?_
    | refine CV.region callees ?_
    | (refine ⟨_, _, al25, ?_⟩)
    | fail
  generalize hs0 : Heap.new H _ = H0
  have hg0 := new_get hs0
  have k0 := new_keep hs0
  have n0 := new_n hs0
  obtain ⟨b0, hbn0⟩ : ∃ b, Heap.n H = b := ⟨_, rfl⟩
  rw [hbn0] at hg0 n0 ⊢
  have hb0 := hb.keep k0
  repeat' first
    | fail
  refine (partyOf_spec hB (by omega) hb0 (by omega) (by omega) (by omega) (by omega)).mono ?_
  rintro r H2 ⟨⟨gv, rv, gs, rs, rfl, hg2, hr2, hp, hgl, hrl⟩, hb2, x2⟩
  have l2 := x2.1
  have hz2 := (x2.2 b0 (by omega) (by omega)).trans hg0
  repeat' first
    | refine CO.cons rfl ?_
    | (refine ⟨_, _, al25, ?_⟩)
    | fail
  generalize hs3 : Heap.new H2 _ = H3
  have hg3 := new_get hs3
  have k3 := new_keep hs3
  have n3 := new_n hs3
  obtain ⟨b3, hbn3⟩ : ∃ b, Heap.n H2 = b := ⟨_, rfl⟩
  rw [hbn3] at hg3 n3 ⊢
  repeat' first
    | fail
  refine ⟨_, _, st25 hg2.oneC hr2.oneC hg3, by omega, ?_⟩
  generalize hs4 : Heap.set H3 b3 _ = H4
  have hg4 : H4.get b3 = some (.cells (Pal gv rv) 25 1) := set_get hs4
  have n4 := set_n hs4
  have o4 := set_old hs4
  have k24 : Keep H2 H4 := keep_put k3 (by omega) o4 n4
  have l4 := k24.1
  have hb2n := hb2.1
  have hgb : ∀ q, blkOf gv = some q → H0.n ≤ q ∧ q < H2.n := fun q hq => hg2.lt hq
  have hrb : ∀ q, blkOf rv = some q → H0.n ≤ q ∧ q < H2.n := fun q hq => hr2.lt hq
  repeat' first
    | refine CO.cons rfl ?_
    | refine CO.nil ?_
    | refine CV.seq ?_
    | refine CV.region callees ?_
    | refine CV.block ?_
    | fail
  refine CV.loopc ?_
  refine WCv.rounds callees false (α := Nat × List Ru) (fun (i, rs) => [(0, bp b), (2, .pointer (some ⟨b0, 0, none⟩)), (3, .pointer (some ⟨b3, 0, none⟩)), (4, VI i)]) (fun (i, rs) Hz => i ≤ rs.length ∧ PaOk gs rs ∧ OwnG Hz gv gs H0.n ∧ OwnR Hz rv rs H0.n ∧ Hz.get b3 = some (.cells (Pal gv rv) 25 1) ∧ Hz.get b0 = some (.cells (Pal nilS nilS) 25 1) ∧ Box b Hz ∧ KeepX b H Hz ∧ H2.n < Hz.n) (fun (i, rs) => rs.length - i) (0, rs) (by repeat' first | exact trivial | refine ⟨rfl, ?_⟩ | refine ⟨slot_int (by (try simp only [Int.toNat_natCast]); omega), ?_⟩) ?_ ?_
  · exact ⟨by omega, hp, OwnS.keep hg2 k24, OwnS.keep hr2 k24, hg4, (k24.2 b0 (by omega)).trans hz2, hb2.keep k24, ((k0.butX b).trans x2).trans (k24.butX b), by omega⟩
  clear hp hg2 hr2 hrl hgl rs
  rintro ⟨i, rs⟩ Hx ⟨hi, hp, hgx, hrx, hPx, hzx, hbx, xx, lx⟩ hBx
  have hm := hp.m
  by_cases hi2 : i < rs.length
  · repeat' first
      | refine CO.cons rfl ?_
      | refine CO.nil ?_
      | refine CV.seq ?_
      | refine CV.region callees ?_
      | refine CV.cond ?_
      | refine CV.block ?_
      | refine CV.skip ?_
      | (refine ⟨_, fS foP1 (by decide), ?_⟩)
      | (refine ⟨_, cell_load ag23r hPx rfl, ?_⟩)
      | (refine ⟨_, rs_len hrx.row, ?_⟩)
      | (refine ⟨fun _ => ?_, fun _ => ?_⟩ <;> first | (exfalso; omega) | skip)
      | fail
    refine (one_spec hB (by omega) hbx (by omega)).mono ?_
    rintro r H5 ⟨⟨c, rfl⟩, hb5, x5⟩
    have l5 := x5.1
    have hg5 : OwnG H5 gv gs H0.n := OwnS.boxed hgx x5 hbx
    have hr5 : OwnR H5 rv rs H0.n := OwnS.boxed hrx x5 hbx
    have hP5 := (x5.2 b3 (by omega) (by omega)).trans hPx
    have hz5 := (x5.2 b0 (by omega) (by omega)).trans hzx
    cases c
    · repeat' first
        | refine CO.cons rfl ?_
        | refine CO.nil ?_
        | refine CV.region callees ?_
        | refine CV.cond ?_
        | (refine ⟨_, fS foP1 (by decide), ?_⟩)
        | (refine ⟨_, cell_load ag23r hP5 rfl, ?_⟩)
        | (refine ⟨_, rs_addr hr5.row (by omega) (by omega), ?_⟩)
        | (refine ⟨_, ru_f hr5.row foR3 (by decide) hi2, ?_⟩)
        | fail
      refine fstore_askS (r := Rul rs[i]!) (j := i) (o := 3) (w := VI 0) sz3 hr5 (by omega) (ru_at hi2) (by decide) rfl ?_
      intro Ha hra0 kba
      have hset : (rs.map Rul).set i ((Rul rs[i]!).set 3 (VI 0)) = (rs.set i (zeR rs[i]!)).map Rul := by rw [List.map_set]; rfl
      have hra : OwnR Ha rv (rs.set i (zeR rs[i]!)) H0.n := by rw [OwnR, ← hset]; exact hra0
      have la := kba.le
      have hb5n := hb5.1
      have hsl : (rs.set i (zeR rs[i]!)).length = rs.length := List.length_set
      repeat' first
        | refine CO.cons rfl ?_
        | refine CO.nil ?_
        | refine CV.region callees ?_
        | refine ⟨(⟨by omega, by omega⟩ : inI64 _), ?_⟩
        | fail
      refine ⟨(i + 1, rs.set i (zeR rs[i]!)), (by repeat' first | exact trivial | refine ⟨rfl, ?_⟩ | refine ⟨slot_int (by (try simp only [Int.toNat_natCast]); omega), ?_⟩), (by (try dsimp only); omega), ?_⟩
      exact ⟨by rw [List.length_set]; omega, set_ok hp hi2, ownS_keepBt hg5 kba (gr_apart hg5 hr5), hra, (kba.get b3 (by omega) (fun h => by have := hrb _ h; omega)).trans hP5, (kba.get b0 (by omega) (fun h => by have := hrb _ h; omega)).trans hz5, hb5.keepBut kba (fun h => by have := hrb _ h; omega), kba.keepX (xx.trans x5) fun c hc => by have := hrb _ hc; omega, by omega⟩
    · repeat' first
        | refine CO.cons rfl ?_
        | refine CO.nil ?_
        | refine CV.region callees ?_
        | refine CV.cond ?_
        | refine CV.skip ?_
        | refine ⟨(⟨by omega, by omega⟩ : inI64 _), ?_⟩
        | fail
      refine ⟨(i + 1, rs), (by repeat' first | exact trivial | refine ⟨rfl, ?_⟩ | refine ⟨slot_int (by (try simp only [Int.toNat_natCast]); omega), ?_⟩), (by (try dsimp only); omega), ?_⟩
      exact ⟨by omega, hp, hg5, hr5, hP5, hz5, hb5, xx.trans x5, by omega⟩
  repeat' first
    | refine CO.cons rfl ?_
    | refine CO.nil ?_
    | refine CV.seq ?_
    | refine CV.region callees ?_
    | refine CV.cond ?_
    | refine CV.exit ?_
    | (refine ⟨_, fS foP1 (by decide), ?_⟩)
    | (refine ⟨_, cell_load ag23r hPx rfl, ?_⟩)
    | (refine ⟨_, rs_len hrx.row, ?_⟩)
    | (refine ⟨_, ld25 hPx, ?_⟩)
    | (refine ⟨fun _ => ?_, fun _ => ?_⟩ <;> first | (exfalso; omega) | skip)
    | fail
  refine ⟨_, _, st25 hgx.oneC hrx.oneC hzx, by omega, ?_⟩
  generalize hsz : Heap.set Hx b0 _ = Hz
  have hgz : Hz.get b0 = some (.cells (Pal gv rv) 25 1) := set_get hsz
  have nz := set_n hsz
  have oz := set_old hsz
  have kz : KeepX b0 Hx Hz := ⟨by omega, fun x _ hx => oz x hx⟩
  repeat' first
    | refine CO.nil ?_
    | refine CV.ret ?_
    | fail
  exact ⟨_, ld25 hgz, rfl, ⟨gv, rv, gs, rs, rfl, OwnS.low (OwnS.keepX hgx kz hzx) (by omega), OwnS.low (OwnS.keepX hrx kz hzx) (by omega), hp⟩, hbx.put (by omega) oz nz, KeepX.put xx (by omega) oz nz⟩
set_option maxHeartbeats 16000000 in
set_option maxRecDepth 100000 in
theorem only_spec {B g0 r0 : Nat} {H : Heap} {gv rv lv : Value} {gs : List Gu} {rs : List Ru} {l : List Int} (hB : B ≤ H.n) (hg : OwnG H gv gs g0) (hr : OwnR H rv rs r0) (hl : Ints H lv l) (hll : l.length ≤ 100) (hli : ∀ x ∈ l, 0 ≤ x ∧ x < rs.length) :
    CallB Try.prog B 56 [Pav gv rv, lv] H (fun v H' => (∃ q, v = Pav gv q ∧ OwnR H' q (onlyR rs l) H.n) ∧ Keep H H') := by
  obtain ⟨gx, gn, gc, hgv⟩ : ∃ x n d, gv = .slice x n d := by
    rcases hg.2 with ⟨rfl, _⟩ | ⟨_, rfl, _⟩ <;> exact ⟨_, _, _, rfl⟩
  refine CV.enter callees false rfl Try.func56 rfl (by kernel_rfl) (Nat.le_of_ble_eq_true rfl) hB ?_
  repeat' first
    | refine CO.cons rfl ?_
    | refine CV.seq ?_
    | refine CV.region callees ?_
    | fail
  refine ⟨(by simp only [notTuple]), ?_⟩
  rw [boxP hg.row.cells.1 hr.row.cells.1]
  generalize hs0 : Heap.new H _ = H0
  have hg0 := new_get hs0
  have k0 := new_keep hs0
  have n0 := new_n hs0
  obtain ⟨b0, hbn0⟩ : ∃ b, Heap.n H = b := ⟨_, rfl⟩
  rw [hbn0] at hg0 n0 ⊢
  repeat' first
    | refine CO.cons rfl ?_
    | refine CO.nil ?_
    | refine CV.seq ?_
    | refine CV.region callees ?_
    | (refine ⟨_, _, al25, ?_⟩)
    | fail
  generalize hs1 : Heap.new H0 _ = H1
  have hg1 := new_get hs1
  have k1 := new_keep hs1
  have n1 := new_n hs1
  obtain ⟨b1, hbn1⟩ : ∃ b, Heap.n H0 = b := ⟨_, rfl⟩
  rw [hbn1] at hg1 n1 ⊢
  have hP1 := (k1.2 b0 (by omega)).trans hg0
  have hbu : abuild Try.prog 25 [(0, gv)] = some (Pav gv nilS) := by rw [hgv]; exact bu25g
  repeat' first
    | refine CO.cons rfl ?_
    | (refine ⟨_, fS foP0 (by decide), ?_⟩)
    | (refine ⟨_, cell_load ag22g hP1 rfl, ?_⟩)
    | (refine ⟨_, hbu, ?_⟩)
    | (refine ⟨_, _, al25, ?_⟩)
    | fail
  generalize hs2 : Heap.new H1 _ = H2
  have hg2 := new_get hs2
  have k2 := new_keep hs2
  have n2 := new_n hs2
  obtain ⟨b2, hbn2⟩ : ∃ b, Heap.n H1 = b := ⟨_, rfl⟩
  rw [hbn2] at hg2 n2 ⊢
  repeat' first
    | fail
  refine ⟨_, _, st25 hg.oneC rfl hg2, by omega, ?_⟩
  generalize hs3 : Heap.set H2 b2 _ = H3
  have hg3 : H3.get b2 = some (.cells (Pal gv nilS) 25 1) := set_get hs3
  have n3 := set_n hs3
  have o3 := set_old hs3
  have k03 : Keep H H3 := keep_put ((k0.trans k1).trans k2) (by omega) o3 n3
  have hP3 := (o3 b0 (by omega)).trans ((k2.2 b0 (by omega)).trans hP1)
  have hz3 := (o3 b1 (by omega)).trans ((k2.2 b1 (by omega)).trans hg1)
  have l03 := k03.1
  repeat' first
    | refine CO.cons rfl ?_
    | refine CO.nil ?_
    | refine CV.seq ?_
    | refine CV.region callees ?_
    | refine CV.block ?_
    | fail
  refine CV.loopc ?_
  refine WCv.rounds callees false (α := Nat × Value) (fun (i, q) => [(1, lv), (2, .pointer (some ⟨b0, 0, none⟩)), (4, .pointer (some ⟨b1, 0, none⟩)), (5, .pointer (some ⟨b2, 0, none⟩)), (6, VI i)]) (fun (i, q) Hz => i ≤ l.length ∧ OwnR Hz q (onlyR rs (l.take i)) H3.n ∧ Hz.get b2 = some (.cells (Pal gv q) 25 1) ∧ Hz.get b1 = H3.get b1 ∧ Hz.get b0 = H3.get b0 ∧ Keep H Hz ∧ H3.n ≤ Hz.n) (fun (i, q) => l.length - i) (0, nilS) (by repeat' first | exact trivial | refine ⟨rfl, ?_⟩ | refine ⟨slot_int (by (try simp only [Int.toNat_natCast]); omega), ?_⟩) ?_ ?_
  · exact ⟨by omega, OwnS.nil, hg3, rfl, rfl, k03, Nat.le_refl _⟩
  rintro ⟨i, q⟩ Hx ⟨hi, hq, hqx, hzx, hPx, kx, lx⟩ hBx
  have hlx : Ints Hx lv l := Row.keep hl kx
  have hrx : OwnR Hx rv rs r0 := OwnS.keep hr kx
  have hqb : ∀ c, blkOf q = some c → H3.n ≤ c := fun c hc => (hq.lt hc).1
  have hPx2 := hPx.trans hP3
  by_cases hi2 : i < l.length
  · have hxi : l[(i : Int).toNat]! = l[i]! := rfl
    have hm : l[i]! ∈ l := by rw [getElem!_pos l i hi2]; exact List.getElem_mem _
    have hb := hli _ hm
    have hlt : l[i]!.toNat < rs.length := by omega
    have hset : (l.take (i + 1)).map (fun x => zeR rs[x.toNat]!) = (l.take i).map (fun x => zeR rs[x.toNat]!) ++ [zeR rs[l[i]!.toNat]!] := by rw [one_at hi2, List.map_append]; rfl
    have hol : (onlyR rs (l.take i)).length = i := by rw [only_len, List.length_take]; omega
    repeat' first
      | refine CO.cons rfl ?_
      | refine CO.nil ?_
      | refine CV.seq ?_
      | refine CV.region callees ?_
      | refine CV.cond ?_
      | refine CV.block ?_
      | refine CV.skip ?_
      | refine ⟨_, ints_len (by assumption), ?_⟩
      | (refine ⟨fun _ => ?_, fun _ => ?_⟩ <;> first | (exfalso; omega) | skip)
      | fail
    refine CV.wideR callees (by decide +kernel) [(0, []), (1, []), (2, []), (3, []), (4, []), (5, []), (6, []), (7, []), (8, [7, 5, 1]), (9, [])] (by kernel_rfl) ?_
    repeat' first
      | refine CR.cons ?_
      | refine ⟨_, ints_addr (by assumption) (by omega) (by omega), ?_⟩
      | refine ⟨_, ints_load (by assumption) (by omega) (by omega), ?_⟩
      | (refine ⟨_, fS foP1 (by decide), ?_⟩)
      | (refine ⟨_, cell_load ag23r hPx2 rfl, ?_⟩)
      | (refine ⟨_, rs_addr hrx.row (by omega) (by omega), ?_⟩)
      | (refine ⟨_, rs_load hrx.row hlt, ?_⟩)
      | fail
    repeat' first
      | refine CR.cons ?_
      | (refine ⟨_, _, al81, ?_⟩)
      | fail
    generalize hs4 : Heap.new Hx _ = H4
    have hg4 := new_get hs4
    have k4 := new_keep hs4
    have n4 := new_n hs4
    obtain ⟨b4, hbn4⟩ : ∃ b, Heap.n Hx = b := ⟨_, rfl⟩
    rw [hbn4] at hg4 n4 ⊢
    have hlx4 : Ints H4 lv l := Row.keep hlx k4
    have hrx4 : OwnR H4 rv rs r0 := OwnS.keep hrx k4
    have hP4 := (k4.2 b0 (by omega)).trans hPx2
    repeat' first
      | fail
    refine ⟨_, _, st81 hg4, by omega, ?_⟩
    generalize hs5 : Heap.set H4 b4 _ = H5
    have hg5 : H5.get b4 = some (.cells (Rul rs[l[i]!.toNat]!) 81 1) := set_get hs5
    have n5 := set_n hs5
    have o5 := set_old hs5
    repeat' first
      | refine CO.cons rfl ?_
      | refine CV.seq ?_
      | refine CV.region callees ?_
      | refine CR.nil ?_
      | (refine ⟨_, fS foR3 (by decide), ?_⟩)
      | fail
    refine ⟨_, _, store_row (i := 0 + 3) sz3 hg5 (Nat.le_of_ble_eq_true rfl) rfl, by omega, ?_⟩
    generalize hs6 : Heap.set H5 b4 _ = H6
    have hg6 : H6.get b4 = some (.cells (Rul (zeR rs[l[i]!.toNat]!)) 81 1) := set_get hs6
    have n6 := set_n hs6
    have o6 := set_old hs6
    have kx6 : Keep Hx H6 := keep_put (keep_put k4 (by omega) o5 n5) (by omega) o6 n6
    have l6 := kx6.1
    have hq6 : OwnR H6 q (onlyR rs (l.take i)) H3.n := OwnS.keep hq kx6
    have hqx6 := (kx6.2 b2 (by omega)).trans hqx
    repeat' first
      | refine CO.cons rfl ?_
      | refine CO.nil ?_
      | refine CV.region callees ?_
      | (refine ⟨_, fS foP1 (by decide), ?_⟩)
      | (refine ⟨_, cell_load ag23r hqx6 rfl, ?_⟩)
      | (refine ⟨_, ld81 hg6, ?_⟩)
      | (refine ⟨_, _, ru_one, ?_⟩)
      | fail
    refine ru_push hq6 (by omega) (by omega) (by omega) ?_
    intro q7 H7 hq7 kb7 hf7
    have l7 := kb7.le
    have hqx7 := (kb7.get b2 (by omega) (fun h => by have := hqb _ h; omega)).trans hqx6
    repeat' first
      | refine CO.cons rfl ?_
      | (refine ⟨_, fS foP1 (by decide), ?_⟩)
      | fail
    refine ⟨_, _, store_row (i := 0 + 1) sz23r hqx7 (by show 0 + 1 < 2; decide) hq7.oneC, by omega, ?_⟩
    generalize hs8 : Heap.set H7 b2 _ = H8
    have hg8 : H8.get b2 = some (.cells (Pal gv q7) 25 1) := set_get hs8
    have n8 := set_n hs8
    have o8 := set_old hs8
    have g : ∀ p, p < H3.n → p ≠ b2 → H8.get p = Hx.get p := fun p hp hp2 => (o8 p hp2).trans ((kb7.get p (by omega) (fun h => by have := hqb _ h; omega)).trans (kx6.2 p (by omega)))
    have hq8 : OwnR H8 q7 (onlyR rs (l.take (i + 1))) H3.n := by
      have : onlyR rs (l.take (i + 1)) = onlyR rs (l.take i) ++ [zeR rs[l[i]!.toNat]!] := hset
      rw [this]
      exact OwnS.keepX hq7 ⟨by omega, fun p _ hp => o8 p hp⟩ hqx7
    repeat' first
      | refine CO.cons rfl ?_
      | refine CO.nil ?_
      | refine CV.region callees ?_
      | refine ⟨(⟨by omega, by omega⟩ : inI64 _), ?_⟩
      | fail
    refine ⟨(i + 1, q7), (by repeat' first | exact trivial | refine ⟨rfl, ?_⟩ | refine ⟨slot_int (by (try simp only [Int.toNat_natCast]); omega), ?_⟩), (by (try dsimp only); omega), ?_⟩
    exact ⟨by omega, hq8, hg8, (g b1 (by omega) (by omega)).trans hzx, (g b0 (by omega) (by omega)).trans hPx, ⟨by have := kx.1; omega, fun p hp => (g p (by omega) (by omega)).trans (kx.2 p hp)⟩, by omega⟩
  obtain rfl : i = l.length := by omega
  rw [List.take_length] at hq
  repeat' first
    | refine CO.cons rfl ?_
    | refine CO.nil ?_
    | refine CV.seq ?_
    | refine CV.region callees ?_
    | refine CV.cond ?_
    | refine CV.exit ?_
    | refine ⟨_, ints_len (by assumption), ?_⟩
    | (refine ⟨_, ld25 hqx, ?_⟩)
    | (refine ⟨fun _ => ?_, fun _ => ?_⟩ <;> first | (exfalso; omega) | skip)
    | fail
  refine ⟨_, _, st25 hg.oneC hq.oneC (hzx.trans hz3), by omega, ?_⟩
  generalize hsz : Heap.set Hx b1 _ = Hz
  have hgz : Hz.get b1 = some (.cells (Pal gv q) 25 1) := set_get hsz
  have nz := set_n hsz
  have oz := set_old hsz
  have kz : KeepX b1 Hx Hz := ⟨by omega, fun x _ hx => oz x hx⟩
  repeat' first
    | refine CO.nil ?_
    | refine CV.ret ?_
    | fail
  exact ⟨_, ld25 hgz, rfl, ⟨q, rfl, OwnS.low (OwnS.keepX hq kz (hzx.trans hz3)) (by omega)⟩, keep_put kx (by omega) oz nz⟩
end Go.Proofs.Ytlamceokhbigaaa

