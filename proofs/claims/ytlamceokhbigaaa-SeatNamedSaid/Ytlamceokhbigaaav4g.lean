
/- Parties most of whose rules must be kept; some rules alone. -/
import Derived.Test.Ytlamceokhbigaaav0g
import Derived.Test.YtlamceokhbigaaaTfg
import Derived.Test.YtlamceokhbigaaaTkg
set_option linter.unusedVariables false
set_option linter.unusedSimpArgs false
namespace Go.Proofs.Ytlamceokhbigaaa
open Go.AI
theorem gr_apart {H : Heap} {gv rv : Value} {gs : List Gu} {rs : List Ru} {B B' : Nat} (hg : OwnG H gv gs B) (hr : OwnR H rv rs B') : ∀ c, blkOf gv = some c → blkOf rv ≠ some c := by
  intro c h1 h2
  rcases hg.2 with ⟨rfl, _⟩ | ⟨b1, rfl, _, _, e1⟩
  · cases h1
  · rcases hr.2 with ⟨rfl, _⟩ | ⟨b2, rfl, _, _, e2⟩
    · cases h2
    · cases h1
      cases h2
      rw [e1] at e2
      injection e2 with e3
      injection e3 with _ e4 _
      exact absurd e4 (by decide)
theorem set_ok {gs : List Gu} {rs : List Ru} {i : Nat} (hp : PaOk gs rs) (hi : i < rs.length) : PaOk gs (rs.set i (zeR rs[i]!)) := by
  refine ⟨hp.n1, hp.n7, hp.gk, by rw [List.length_set]; exact hp.m, fun j hj => ?_⟩
  rw [List.length_set] at hj
  rw [getElem!_pos _ j (by rw [List.length_set]; exact hj), List.getElem_set]
  by_cases e : i = j
  · rw [if_pos e]
    obtain ⟨a1, a2, a3, a4, a5, a6, _, _⟩ := hp.rk i hi
    exact ⟨a1, a2, a3, a4, a5, a6, Int.le_refl _, by show (0 : Int) ≤ 1000; decide⟩
  · rw [if_neg e]
    have := hp.rk j hj
    rwa [getElem!_pos rs j hj] at this
set_option maxHeartbeats 16000000 in
set_option maxRecDepth 100000 in
theorem strict_spec {B b : Nat} {H : Heap} (hB : B ≤ b) (hn : B ≤ H.n) (hb : Box b H) :
    CallB Try.prog B 36 [bp b] H (fun v H' => (∃ gv rv gs rs, v = Pav gv rv ∧ OwnG H' gv gs H.n ∧ OwnR H' rv rs H.n ∧ PaOk gs rs) ∧ Box b H' ∧ KeepX b H H') := by
  have hbn := hb.1
  refine CV.enter callees false rfl Try.func36 rfl (by kernel_rfl) (Nat.le_of_ble_eq_true rfl) hn ?_
  repeat' first
    | refine CO.cons rfl ?_
    | refine CO.nil ?_
    | refine CV.seq ?_
    | refine CV.region callees ?_
    | (refine ⟨_, _, al25, ?_⟩)
    | fail
  generalize hs0 : Heap.new H _ = H0
  have hg0 := new_get hs0
  have k0 := new_keep hs0
  have n0 := new_n hs0
  obtain ⟨b0, hbn0⟩ : ∃ b, Heap.n H = b := ⟨_, rfl⟩
  rw [hbn0] at hg0 n0 ⊢
  have hb0 := hb.keep k0
  repeat' first
    | fail
  refine (partyOf_spec hB (by omega) hb0 (by omega) (by omega) (by omega) (by omega)).mono ?_
  rintro r H2 ⟨⟨gv, rv, gs, rs, rfl, hg2, hr2, hp, hgl, hrl⟩, hb2, x2⟩
  have l2 := x2.1
  have hz2 := (x2.2 b0 (by omega) (by omega)).trans hg0
  repeat' first
    | refine CO.cons rfl ?_
    | (refine ⟨_, _, al25, ?_⟩)
    | fail
  generalize hs3 : Heap.new H2 _ = H3
  have hg3 := new_get hs3
  have k3 := new_keep hs3
  have n3 := new_n hs3
  obtain ⟨b3, hbn3⟩ : ∃ b, Heap.n H2 = b := ⟨_, rfl⟩
  rw [hbn3] at hg3 n3 ⊢
  repeat' first
    | fail
  refine ⟨_, _, st25 hg2.oneC hr2.oneC hg3, by omega, ?_⟩
  generalize hs4 : Heap.set H3 b3 _ = H4
  have hg4 : H4.get b3 = some (.cells (Pal gv rv) 25 1) := set_get hs4
  have n4 := set_n hs4
  have o4 := set_old hs4
  have k24 : Keep H2 H4 := keep_put k3 (by omega) o4 n4
  have l4 := k24.1
  have hb2n := hb2.1
  have hgb : ∀ q, blkOf gv = some q → H0.n ≤ q ∧ q < H2.n := fun q hq => hg2.lt hq
  have hrb : ∀ q, blkOf rv = some q → H0.n ≤ q ∧ q < H2.n := fun q hq => hr2.lt hq
  repeat' first
    | refine CO.cons rfl ?_
    | refine CO.nil ?_
    | refine CV.seq ?_
    | refine CV.region callees ?_
    | refine CV.block ?_
    | fail
  refine CV.loopc ?_
  refine WCv.rounds callees false (α := Nat × List Ru) (fun (i, rs) => [(0, bp b), (2, .pointer (some ⟨b0, 0, none⟩)), (3, .pointer (some ⟨b3, 0, none⟩)), (4, VI i)]) (fun (i, rs) Hz => i ≤ rs.length ∧ PaOk gs rs ∧ OwnG Hz gv gs H0.n ∧ OwnR Hz rv rs H0.n ∧ Hz.get b3 = some (.cells (Pal gv rv) 25 1) ∧ Hz.get b0 = some (.cells (Pal nilS nilS) 25 1) ∧ Box b Hz ∧ KeepX b H Hz ∧ H2.n < Hz.n) (fun (i, rs) => rs.length - i) (0, rs) (by repeat' first | exact trivial | refine ⟨rfl, ?_⟩ | refine ⟨slot_int (by (try simp only [Int.toNat_natCast]); omega), ?_⟩) ?_ ?_
  · exact ⟨by omega, hp, OwnS.keep hg2 k24, OwnS.keep hr2 k24, hg4, (k24.2 b0 (by omega)).trans hz2, hb2.keep k24, ((k0.butX b).trans x2).trans (k24.butX b), by omega⟩
  clear hp hg2 hr2 hrl hgl rs
  rintro ⟨i, rs⟩ Hx ⟨hi, hp, hgx, hrx, hPx, hzx, hbx, xx, lx⟩ hBx
  have hm := hp.m
  by_cases hi2 : i < rs.length
  · repeat' first
      | refine CO.cons rfl ?_
      | refine CO.nil ?_
      | refine CV.seq ?_
      | refine CV.region callees ?_
      | refine CV.cond ?_
      | refine CV.block ?_
      | refine CV.skip ?_
      | (refine ⟨_, fS foP1 (by decide), ?_⟩)
      | (refine ⟨_, cell_load ag23r hPx rfl, ?_⟩)
      | (refine ⟨_, rs_len hrx.row, ?_⟩)
      | (refine ⟨fun _ => ?_, fun _ => ?_⟩ <;> first | (exfalso; omega) | skip)
      | fail
    refine (one_spec hB (by omega) hbx (by omega)).mono ?_
    rintro r H5 ⟨⟨c, rfl⟩, hb5, x5⟩
    have l5 := x5.1
    have hg5 : OwnG H5 gv gs H0.n := OwnS.boxed hgx x5 hbx
    have hr5 : OwnR H5 rv rs H0.n := OwnS.boxed hrx x5 hbx
    have hP5 := (x5.2 b3 (by omega) (by omega)).trans hPx
    have hz5 := (x5.2 b0 (by omega) (by omega)).trans hzx
    cases c
    · repeat' first
        | refine CO.cons rfl ?_
        | refine CO.nil ?_
        | refine CV.region callees ?_
        | refine CV.cond ?_
        | (refine ⟨_, fS foP1 (by decide), ?_⟩)
        | (refine ⟨_, cell_load ag23r hP5 rfl, ?_⟩)
        | (refine ⟨_, rs_addr hr5.row (by omega) (by omega), ?_⟩)
        | (refine ⟨_, ru_f hr5.row foR3 (by decide) hi2, ?_⟩)
        | fail
      refine fstore_askS (r := Rul rs[i]!) (j := i) (o := 3) (w := VI 0) sz3 hr5 (by omega) (ru_at hi2) (by decide) rfl ?_
      intro Ha hra0 kba
      have hset : (rs.map Rul).set i ((Rul rs[i]!).set 3 (VI 0)) = (rs.set i (zeR rs[i]!)).map Rul := by rw [List.map_set]; rfl
      have hra : OwnR Ha rv (rs.set i (zeR rs[i]!)) H0.n := by rw [OwnR, ← hset]; exact hra0
      have la := kba.le
      have hb5n := hb5.1
      have hsl : (rs.set i (zeR rs[i]!)).length = rs.length := List.length_set
      repeat' first
        | refine CO.cons rfl ?_
        | refine CO.nil ?_
        | refine CV.region callees ?_
        | refine ⟨(⟨by omega, by omega⟩ : inI64 _), ?_⟩
        | fail
      refine ⟨(i + 1, rs.set i (zeR rs[i]!)), (by repeat' first | exact trivial | refine ⟨rfl, ?_⟩ | refine ⟨slot_int (by (try simp only [Int.toNat_natCast]); omega), ?_⟩), (by (try dsimp only); omega), ?_⟩
      exact ⟨by rw [List.length_set]; omega, set_ok hp hi2, ownS_keepBt hg5 kba (gr_apart hg5 hr5), hra, (kba.get b3 (by omega) (fun h => by have := hrb _ h; omega)).trans hP5, (kba.get b0 (by omega) (fun h => by have := hrb _ h; omega)).trans hz5, hb5.keepBut kba (fun h => by have := hrb _ h; omega), kba.keepX (xx.trans x5) fun c hc => by have := hrb _ hc; omega, by omega⟩
    · repeat' first
        | refine CO.cons rfl ?_
        | refine CO.nil ?_
        | refine CV.region callees ?_
        | refine CV.cond ?_
        | refine CV.skip ?_
        | refine ⟨(⟨by omega, by omega⟩ : inI64 _), ?_⟩
        | fail
      refine ⟨(i + 1, rs), (by repeat' first | exact trivial | refine ⟨rfl, ?_⟩ | refine ⟨slot_int (by (try simp only [Int.toNat_natCast]); omega), ?_⟩), (by (try dsimp only); omega), ?_⟩
      exact ⟨by omega, hp, hg5, hr5, hP5, hz5, hb5, xx.trans x5, by omega⟩
  repeat' first
    | refine CO.cons rfl ?_
    | refine CO.nil ?_
    | refine CV.seq ?_
    | refine CV.region callees ?_
    | refine CV.cond ?_
    | refine CV.exit ?_
    | (refine ⟨_, fS foP1 (by decide), ?_⟩)
    | (refine ⟨_, cell_load ag23r hPx rfl, ?_⟩)
    | (refine ⟨_, rs_len hrx.row, ?_⟩)
    | (refine ⟨_, ld25 hPx, ?_⟩)
    | (refine ⟨fun _ => ?_, fun _ => ?_⟩ <;> first | (exfalso; omega) | skip)
    | fail
  refine ⟨_, _, st25 hgx.oneC hrx.oneC hzx, by omega, ?_⟩
  generalize hsz : Heap.set Hx b0 _ = Hz
  have hgz : Hz.get b0 = some (.cells (Pal gv rv) 25 1) := set_get hsz
  have nz := set_n hsz
  have oz := set_old hsz
  have kz : KeepX b0 Hx Hz := ⟨by omega, fun x _ hx => oz x hx⟩
  repeat' first
    | refine CO.nil ?_
    | refine CV.ret ?_
    | fail
  exact ⟨_, ld25 hgz, rfl, ⟨gv, rv, gs, rs, rfl, OwnS.low (OwnS.keepX hgx kz hzx) (by omega), OwnS.low (OwnS.keepX hrx kz hzx) (by omega), hp⟩, hbx.put (by omega) oz nz, KeepX.put xx (by omega) oz nz⟩
end Go.Proofs.Ytlamceokhbigaaa

