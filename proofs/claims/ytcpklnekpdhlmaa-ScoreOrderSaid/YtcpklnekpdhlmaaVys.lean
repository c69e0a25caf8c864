/- ScoreOrder: its function answers true. -/
import Derived.Test.YtcpklnekpdhlmaaVhs
set_option linter.unusedVariables false
set_option linter.unusedSimpArgs false
namespace Go.Proofs.Ytcpklnekpdhlmaa
open Go.AI
set_option maxHeartbeats 8000000 in
set_option maxRecDepth 100000 in
theorem scoreOrder_spec {v : Value} {H : Heap} {xs : List Int} (hBase : Base H) (hv : Ints H v xs) (hx : xs.length ≤ 9223372036854775807) (_ : ∀ x ∈ xs, inI64 x) :
    CallB Try.prog H.n 7 [v] H (fun r _ => r = .bool true) := by
  have hn : H.n ≤ H.n := Nat.le_refl _
  refine CV.enter callees false rfl Try.func7 rfl (by kernel_rfl) (Nat.le_of_ble_eq_true rfl) hn ?_
  repeat' first
    | refine CO.cons rfl ?_
    | refine CO.nil ?_
    | refine CV.seq ?_
    | refine CV.region callees ?_
    | refine CV.cond ?_
    | refine CV.block ?_
    | refine CV.skip ?_
    | refine CV.exit ?_
    | refine CV.ret ?_
    | refine CV.scope ?_
    | refine CV.draw callees rfl ?_
    | refine CH.cons rfl ?_
    | refine CH.nil ?_
    | refine CO.consG rfl ?_
    | refine CH.consG rfl ?_
    | refine CG.cons rfl ?_
    | refine CR.cons ?_
    | refine CR.nil ?_
    | refine CG.nil ?_
    | refine CG.consG rfl ?_
    | refine ⟨(rfl : plain _ = true), ?_⟩
    | refine ⟨(rfl : nilOk _ = some _), ?_⟩
    | refine ⟨_, ints_len (by assumption), ?_⟩
    | refine ⟨_, ints_addr (by assumption) (by omega) (by omega), ?_⟩
    | refine ⟨_, ints_load (by assumption) (by omega) (by omega), ?_⟩
    | refine ⟨(⟨by omega, by omega⟩ : inI64 _), ?_⟩
    | refine ⟨_, fun tm ha => step1_max rfl (ev_tmp ha rfl) (ev_tmp ha rfl), ?_⟩
    | refine ⟨_, fun tm ha => step1_min rfl (ev_tmp ha rfl) (ev_tmp ha rfl), ?_⟩
    | (refine ⟨fun _ => ?_, fun _ => ?_⟩ <;> first | (exfalso; omega) | skip)
    | fail
  refine (boxOf_spec hn hv hx).mono ?_
  rintro r H1 ⟨⟨b, rfl, hb, hbox⟩, k1⟩
  have l1 := k1.1
  repeat' first
    | refine CO.cons rfl ?_
    | refine CO.nil ?_
    | refine CV.seq ?_
    | refine CV.region callees ?_
    | refine CV.cond ?_
    | refine CV.block ?_
    | refine CV.skip ?_
    | refine CV.exit ?_
    | refine CV.ret ?_
    | refine CV.scope ?_
    | refine CV.draw callees rfl ?_
    | refine CH.cons rfl ?_
    | refine CH.nil ?_
    | refine CO.consG rfl ?_
    | refine CH.consG rfl ?_
    | refine CG.cons rfl ?_
    | refine CR.cons ?_
    | refine CR.nil ?_
    | refine CG.nil ?_
    | refine CG.consG rfl ?_
    | refine ⟨(rfl : plain _ = true), ?_⟩
    | refine ⟨(rfl : nilOk _ = some _), ?_⟩
    | refine ⟨_, ints_len (by assumption), ?_⟩
    | refine ⟨_, ints_addr (by assumption) (by omega) (by omega), ?_⟩
    | refine ⟨_, ints_load (by assumption) (by omega) (by omega), ?_⟩
    | refine ⟨(⟨by omega, by omega⟩ : inI64 _), ?_⟩
    | refine ⟨_, fun tm ha => step1_max rfl (ev_tmp ha rfl) (ev_tmp ha rfl), ?_⟩
    | refine ⟨_, fun tm ha => step1_min rfl (ev_tmp ha rfl) (ev_tmp ha rfl), ?_⟩
    | (refine ⟨fun _ => ?_, fun _ => ?_⟩ <;> first | (exfalso; omega) | skip)
    | fail
  refine (tableOf_spec (B := H.n) hb l1 hbox (by omega) (by omega) (by omega) (by omega)).mono ?_
  rintro r H2a ⟨⟨t, A, vals, rfl, hVt, hG⟩, hb2a, x2a⟩
  have l2a := x2a.1
  repeat' first
    | refine CO.cons rfl ?_
    | refine CO.nil ?_
    | refine CV.seq ?_
    | refine CV.region callees ?_
    | refine CV.cond ?_
    | refine CV.block ?_
    | refine CV.skip ?_
    | refine CV.exit ?_
    | refine CV.ret ?_
    | refine CV.scope ?_
    | refine CV.draw callees rfl ?_
    | refine CH.cons rfl ?_
    | refine CH.nil ?_
    | refine CO.consG rfl ?_
    | refine CH.consG rfl ?_
    | refine CG.cons rfl ?_
    | refine CR.cons ?_
    | refine CR.nil ?_
    | refine CG.nil ?_
    | refine CG.consG rfl ?_
    | refine ⟨(rfl : plain _ = true), ?_⟩
    | refine ⟨(rfl : nilOk _ = some _), ?_⟩
    | refine ⟨_, ints_len (by assumption), ?_⟩
    | refine ⟨_, ints_addr (by assumption) (by omega) (by omega), ?_⟩
    | refine ⟨_, ints_load (by assumption) (by omega) (by omega), ?_⟩
    | refine ⟨(⟨by omega, by omega⟩ : inI64 _), ?_⟩
    | refine ⟨_, fun tm ha => step1_max rfl (ev_tmp ha rfl) (ev_tmp ha rfl), ?_⟩
    | refine ⟨_, fun tm ha => step1_min rfl (ev_tmp ha rfl) (ev_tmp ha rfl), ?_⟩
    | (refine ⟨_, _, allocT, ?_⟩)
    | (refine ⟨fun _ => ?_, fun _ => ?_⟩ <;> first | (exfalso; omega) | skip)
    | fail
  generalize hs0 : H2a.new (Tc T0 (.slice none 0 0)) = H2b
  have hg0 := new_get hs0
  have k0 := new_keep hs0
  have n0 := new_n hs0
  obtain ⟨bt, hbt⟩ : ∃ bt, H2a.n = bt := ⟨_, rfl⟩
  rw [hbt] at hg0 n0 ⊢
  refine ⟨_, _, storeT (t' := t) hG.own.row.oneC.1 hg0, by omega, ?_⟩
  generalize hs1 : H2b.set bt _ = H2c
  have hg1 : H2c.get bt = some (Tc t A) := set_get hs1
  have n1 := set_n hs1
  repeat' first
    | refine CO.cons rfl ?_
    | refine CO.nil ?_
    | refine CV.seq ?_
    | refine CV.region callees ?_
    | refine CV.cond ?_
    | refine CV.block ?_
    | refine CV.skip ?_
    | refine CV.exit ?_
    | refine CV.ret ?_
    | refine CV.scope ?_
    | refine CV.draw callees rfl ?_
    | refine CH.cons rfl ?_
    | refine CH.nil ?_
    | refine CO.consG rfl ?_
    | refine CH.consG rfl ?_
    | refine CG.cons rfl ?_
    | refine CR.cons ?_
    | refine CR.nil ?_
    | refine CG.nil ?_
    | refine CG.consG rfl ?_
    | refine ⟨(rfl : plain _ = true), ?_⟩
    | refine ⟨(rfl : nilOk _ = some _), ?_⟩
    | refine ⟨_, ints_len (by assumption), ?_⟩
    | refine ⟨_, ints_addr (by assumption) (by omega) (by omega), ?_⟩
    | refine ⟨_, ints_load (by assumption) (by omega) (by omega), ?_⟩
    | refine ⟨(⟨by omega, by omega⟩ : inI64 _), ?_⟩
    | refine ⟨_, fun tm ha => step1_max rfl (ev_tmp ha rfl) (ev_tmp ha rfl), ?_⟩
    | refine ⟨_, fun tm ha => step1_min rfl (ev_tmp ha rfl) (ev_tmp ha rfl), ?_⟩
    | (refine ⟨_, addrT (by decide), ?_⟩)
    | (refine ⟨fun _ => ?_, fun _ => ?_⟩ <;> first | (exfalso; omega) | skip)
    | fail
  refine ⟨_, _, cell_store sz3 hg1 (Nat.le_of_ble_eq_true rfl) rfl, by omega, ?_⟩
  generalize hs2 : H2c.set bt _ = H2
  have hVT := hVt.opened
  have hrsT : t.rs = (⟨t.pk, t.ps, 1, t.rs⟩ : Tb).rs := rfl
  have hgt : H2.get bt = some (Tc ⟨t.pk, t.ps, 1, t.rs⟩ A) := set_get hs2
  rw [hrsT] at hG
  generalize (⟨t.pk, t.ps, 1, t.rs⟩ : Tb) = T at hVT hgt hG
  have n2 := set_n hs2
  have hb2an := hb2a.1
  have k2 : Keep H2a H2 := keep_put (keep_put k0 (by omega) (set_old hs1) n1) (by omega) (set_old hs2) n2
  have hG2 := hG.keep k2
  have hb2 : Box b H2 := hb2a.keep k2
  have l2 := k2.1
  have p9 := hVT.pk9
  have p1 := hVT.pk0
  have r1 := hVT.len0
  have r2 := hVT.len9
  have hbl : b < bt := by omega
  repeat' first
    | refine CO.cons rfl ?_
    | refine CO.nil ?_
    | refine CV.seq ?_
    | refine CV.region callees ?_
    | refine CV.cond ?_
    | refine CV.block ?_
    | refine CV.skip ?_
    | refine CV.exit ?_
    | refine CV.ret ?_
    | refine CV.scope ?_
    | refine CV.draw callees rfl ?_
    | refine CH.cons rfl ?_
    | refine CH.nil ?_
    | refine CO.consG rfl ?_
    | refine CH.consG rfl ?_
    | refine CG.cons rfl ?_
    | refine CR.cons ?_
    | refine CR.nil ?_
    | refine CG.nil ?_
    | refine CG.consG rfl ?_
    | refine ⟨(rfl : plain _ = true), ?_⟩
    | refine ⟨(rfl : nilOk _ = some _), ?_⟩
    | refine ⟨_, ints_len (by assumption), ?_⟩
    | refine ⟨_, ints_addr (by assumption) (by omega) (by omega), ?_⟩
    | refine ⟨_, ints_load (by assumption) (by omega) (by omega), ?_⟩
    | refine ⟨(⟨by omega, by omega⟩ : inI64 _), ?_⟩
    | refine ⟨_, fun tm ha => step1_max rfl (ev_tmp ha rfl) (ev_tmp ha rfl), ?_⟩
    | refine ⟨_, fun tm ha => step1_min rfl (ev_tmp ha rfl) (ev_tmp ha rfl), ?_⟩
    | (refine ⟨fun _ => ?_, fun _ => ?_⟩ <;> first | (exfalso; omega) | skip)
    | fail
  refine CV.loopc ?_
  refine WCv.rounds callees false (α := Value × List Dd) (fun (ds, l) => [(3, bp b), (4, .pointer (some ⟨bt, 0, none⟩)), (5, ds), (6, .int .i64 l.length)]) (fun (ds, l) Hz => l.length ≤ 2 ∧ OwnD Hz ds l H2.n ∧ Box b Hz ∧ KeepX b H2 Hz ∧ (∀ d ∈ l, okD T d)) (fun (ds, l) => 2 - l.length) (.slice none 0 0, []) (by repeat' first | exact trivial | refine ⟨rfl, ?_⟩ | refine ⟨slot_int (by (try simp only [Int.toNat_natCast]); omega), ?_⟩) ?_ ?_
  · exact ⟨by simp, OwnS.nil, hb2, KeepX.refl _ _, fun d hd => by cases hd⟩
  rintro ⟨ds, l⟩ Hx ⟨hlen, hds, hbx, hkx, hok⟩ hBx
  have hgtx : Hx.get bt = some (Tc T A) := by rw [hkx.2 bt (by omega) (by omega)]; exact hgt
  have hGx := (hG2.box hkx hb2).grid
  have lx := hkx.1
  by_cases hi : l.length < 2
  · repeat' first
      | refine CO.cons rfl ?_
      | refine CO.nil ?_
      | refine CV.seq ?_
      | refine CV.region callees ?_
      | refine CV.cond ?_
      | refine CV.block ?_
      | refine CV.skip ?_
      | refine CV.exit ?_
      | refine CV.ret ?_
      | refine CV.scope ?_
      | refine CV.draw callees rfl ?_
      | refine CH.cons rfl ?_
      | refine CH.nil ?_
      | refine CO.consG rfl ?_
      | refine CH.consG rfl ?_
      | refine CG.cons rfl ?_
      | refine CR.cons ?_
      | refine CR.nil ?_
      | refine CG.nil ?_
      | refine CG.consG rfl ?_
      | refine ⟨(rfl : plain _ = true), ?_⟩
      | refine ⟨(rfl : nilOk _ = some _), ?_⟩
      | refine ⟨_, ints_len (by assumption), ?_⟩
      | refine ⟨_, ints_addr (by assumption) (by omega) (by omega), ?_⟩
      | refine ⟨_, ints_load (by assumption) (by omega) (by omega), ?_⟩
      | refine ⟨(⟨by omega, by omega⟩ : inI64 _), ?_⟩
      | refine ⟨_, fun tm ha => step1_max rfl (ev_tmp ha rfl) (ev_tmp ha rfl), ?_⟩
      | refine ⟨_, fun tm ha => step1_min rfl (ev_tmp ha rfl) (ev_tmp ha rfl), ?_⟩
      | refine CV.wideR callees rfl [(0, []), (1, []), (2, []), (3, []), (4, []), (6, []), (7, []), (8, []), (10, []), (5, [8]), (9, []), (11, []), (12, []), (13, []), (14, []), (15, [])] (by kernel_rfl) ?_
      | (refine ⟨_, addrT (by decide), ?_⟩)
      | (refine ⟨Value.int .i64 T.pk, cell_load ag3 hgtx rfl, ?_⟩)
      | (refine ⟨A, cell_load ag32 hgtx rfl, ?_⟩)
      | (refine ⟨_, hGx.alen, ?_⟩)
      | (refine ⟨fun _ => ?_, fun _ => ?_⟩ <;> first | (exfalso; omega) | skip)
      | fail
    refine (up_spec hb (by omega) hbx (by omega)).mono ?_
    rintro r H3 ⟨⟨g, rfl, g0, g1⟩, hb3, x3⟩
    have l3 := x3.1
    have hgt3 : H3.get bt = some (Tc T A) := by rw [x3.2 bt (by omega) (by omega)]; exact hgtx
    repeat' first
      | refine CO.cons rfl ?_
      | refine CO.nil ?_
      | refine CV.seq ?_
      | refine CV.region callees ?_
      | refine CV.cond ?_
      | refine CV.block ?_
      | refine CV.skip ?_
      | refine CV.exit ?_
      | refine CV.ret ?_
      | refine CV.scope ?_
      | refine CV.draw callees rfl ?_
      | refine CH.cons rfl ?_
      | refine CH.nil ?_
      | refine CO.consG rfl ?_
      | refine CH.consG rfl ?_
      | refine CG.cons rfl ?_
      | refine CR.cons ?_
      | refine CR.nil ?_
      | refine CG.nil ?_
      | refine CG.consG rfl ?_
      | refine ⟨(rfl : plain _ = true), ?_⟩
      | refine ⟨(rfl : nilOk _ = some _), ?_⟩
      | refine ⟨_, ints_len (by assumption), ?_⟩
      | refine ⟨_, ints_addr (by assumption) (by omega) (by omega), ?_⟩
      | refine ⟨_, ints_load (by assumption) (by omega) (by omega), ?_⟩
      | refine ⟨(⟨by omega, by omega⟩ : inI64 _), ?_⟩
      | refine ⟨_, fun tm ha => step1_max rfl (ev_tmp ha rfl) (ev_tmp ha rfl), ?_⟩
      | refine ⟨_, fun tm ha => step1_min rfl (ev_tmp ha rfl) (ev_tmp ha rfl), ?_⟩
      | (refine ⟨(rfl : _ = Value.int _ _), ?_⟩)
      | (refine ⟨same_int, ?_⟩)
      | (refine ⟨Value.int .i64 T.pk, cell_load ag3 hgt3 rfl, ?_⟩)
      | (refine ⟨fun _ => ?_, fun _ => ?_⟩ <;> first | (exfalso; omega) | skip)
      | fail
    refine (up_spec (n := T.pk) hb (by omega) hb3 (by omega)).mono ?_
    rintro r H4 ⟨⟨p, rfl, p0, p1⟩, hb4, x4⟩
    have l4 := x4.1
    repeat' first
      | refine CO.cons rfl ?_
      | refine CO.nil ?_
      | refine CV.seq ?_
      | refine CV.region callees ?_
      | refine CV.cond ?_
      | refine CV.block ?_
      | refine CV.skip ?_
      | refine CV.exit ?_
      | refine CV.ret ?_
      | refine CV.scope ?_
      | refine CV.draw callees rfl ?_
      | refine CH.cons rfl ?_
      | refine CH.nil ?_
      | refine CO.consG rfl ?_
      | refine CH.consG rfl ?_
      | refine CG.cons rfl ?_
      | refine CR.cons ?_
      | refine CR.nil ?_
      | refine CG.nil ?_
      | refine CG.consG rfl ?_
      | refine ⟨(rfl : plain _ = true), ?_⟩
      | refine ⟨(rfl : nilOk _ = some _), ?_⟩
      | refine ⟨_, ints_len (by assumption), ?_⟩
      | refine ⟨_, ints_addr (by assumption) (by omega) (by omega), ?_⟩
      | refine ⟨_, ints_load (by assumption) (by omega) (by omega), ?_⟩
      | refine ⟨(⟨by omega, by omega⟩ : inI64 _), ?_⟩
      | refine ⟨_, fun tm ha => step1_max rfl (ev_tmp ha rfl) (ev_tmp ha rfl), ?_⟩
      | refine ⟨_, fun tm ha => step1_min rfl (ev_tmp ha rfl) (ev_tmp ha rfl), ?_⟩
      | (refine ⟨fun _ => ?_, fun _ => ?_⟩ <;> first | (exfalso; omega) | skip)
      | fail
    refine (any_spec hb (by omega) hb4 (by omega) (by omega) (by omega)).mono ?_
    rintro r H5 ⟨⟨y, rfl, y0, y1⟩, hb5, x5⟩
    have l5 := x5.1
    have x35 := (x3.trans x4).trans x5
    have hds5 := OwnD.box hds x35 hbx
    repeat' first
      | refine CO.cons rfl ?_
      | refine CO.nil ?_
      | refine CV.seq ?_
      | refine CV.region callees ?_
      | refine CV.cond ?_
      | refine CV.block ?_
      | refine CV.skip ?_
      | refine CV.exit ?_
      | refine CV.ret ?_
      | refine CV.scope ?_
      | refine CV.draw callees rfl ?_
      | refine CH.cons rfl ?_
      | refine CH.nil ?_
      | refine CO.consG rfl ?_
      | refine CH.consG rfl ?_
      | refine CG.cons rfl ?_
      | refine CR.cons ?_
      | refine CR.nil ?_
      | refine CG.nil ?_
      | refine CG.consG rfl ?_
      | refine ⟨(rfl : plain _ = true), ?_⟩
      | refine ⟨(rfl : nilOk _ = some _), ?_⟩
      | refine ⟨_, ints_len (by assumption), ?_⟩
      | refine ⟨_, ints_addr (by assumption) (by omega) (by omega), ?_⟩
      | refine ⟨_, ints_load (by assumption) (by omega) (by omega), ?_⟩
      | refine ⟨(⟨by omega, by omega⟩ : inI64 _), ?_⟩
      | refine ⟨_, fun tm ha => step1_max rfl (ev_tmp ha rfl) (ev_tmp ha rfl), ?_⟩
      | refine ⟨_, fun tm ha => step1_min rfl (ev_tmp ha rfl) (ev_tmp ha rfl), ?_⟩
      | (refine ⟨_, buildD, ?_⟩)
      | (refine ⟨_, _, buildD1, ?_⟩)
      | (refine ⟨fun _ => ?_, fun _ => ?_⟩ <;> first | (exfalso; omega) | skip)
      | fail
    refine dpush_ask hds5 (by omega) (by omega) (by omega) ?_
    intro lN HN hlN kbN hfN
    have lz : (l ++ [(⟨2, g, p, y⟩ : Dd)]).length = l.length + 1 := by simp
    repeat' first
      | refine CO.cons rfl ?_
      | refine CO.nil ?_
      | refine CV.seq ?_
      | refine CV.region callees ?_
      | refine CV.cond ?_
      | refine CV.block ?_
      | refine CV.skip ?_
      | refine CV.exit ?_
      | refine CV.ret ?_
      | refine CV.scope ?_
      | refine CV.draw callees rfl ?_
      | refine CH.cons rfl ?_
      | refine CH.nil ?_
      | refine CO.consG rfl ?_
      | refine CH.consG rfl ?_
      | refine CG.cons rfl ?_
      | refine CR.cons ?_
      | refine CR.nil ?_
      | refine CG.nil ?_
      | refine CG.consG rfl ?_
      | refine ⟨(rfl : plain _ = true), ?_⟩
      | refine ⟨(rfl : nilOk _ = some _), ?_⟩
      | refine ⟨_, ints_len (by assumption), ?_⟩
      | refine ⟨_, ints_addr (by assumption) (by omega) (by omega), ?_⟩
      | refine ⟨_, ints_load (by assumption) (by omega) (by omega), ?_⟩
      | refine ⟨(⟨by omega, by omega⟩ : inI64 _), ?_⟩
      | refine ⟨_, fun tm ha => step1_max rfl (ev_tmp ha rfl) (ev_tmp ha rfl), ?_⟩
      | refine ⟨_, fun tm ha => step1_min rfl (ev_tmp ha rfl) (ev_tmp ha rfl), ?_⟩
      | (refine ⟨fun _ => ?_, fun _ => ?_⟩ <;> first | (exfalso; omega) | skip)
      | fail
    refine ⟨(lN, l ++ [⟨2, g, p, y⟩]), (by repeat' first | exact trivial | refine ⟨rfl, ?_⟩ | refine ⟨slot_int (by (try simp only [Int.toNat_natCast]); omega), ?_⟩), (by (try dsimp only); omega), ?_⟩
    refine ⟨by omega, hlN, hb5.keepBut kbN (fun h => by have := (hds5.lt h).1; omega), kbN.keepX (hkx.trans x35) (fun c hc => (hds5.lt hc).1), fun d hd => ?_⟩
    rw [List.mem_append, List.mem_singleton] at hd
    rcases hd with hd | rfl
    · exact hok d hd
    · exact ⟨rfl, g0, p0, by show okN y = true; simp only [okN, Bool.and_eq_true, decide_eq_true_eq]; omega⟩
  · obtain ⟨d, e, rfl⟩ : ∃ d e, l = [d, e] := by
      match l, hlen, hi with
      | [], _, hi => exact absurd (by decide) hi
      | [_], _, hi => exact absurd (by show 1 < 2; decide) hi
      | [d, e], _, _ => exact ⟨d, e, rfl⟩
      | _ :: _ :: _ :: _, hlen, _ => simp at hlen
    have okd := hok d (by simp)
    have oke := hok e (by simp)
    repeat' first
      | refine CO.cons rfl ?_
      | refine CO.nil ?_
      | refine CV.seq ?_
      | refine CV.region callees ?_
      | refine CV.cond ?_
      | refine CV.block ?_
      | refine CV.skip ?_
      | refine CV.exit ?_
      | refine CV.ret ?_
      | refine CV.scope ?_
      | refine CV.draw callees rfl ?_
      | refine CH.cons rfl ?_
      | refine CH.nil ?_
      | refine CO.consG rfl ?_
      | refine CH.consG rfl ?_
      | refine CG.cons rfl ?_
      | refine CR.cons ?_
      | refine CR.nil ?_
      | refine CG.nil ?_
      | refine CG.consG rfl ?_
      | refine ⟨(rfl : plain _ = true), ?_⟩
      | refine ⟨(rfl : nilOk _ = some _), ?_⟩
      | refine ⟨_, ints_len (by assumption), ?_⟩
      | refine ⟨_, ints_addr (by assumption) (by omega) (by omega), ?_⟩
      | refine ⟨_, ints_load (by assumption) (by omega) (by omega), ?_⟩
      | refine ⟨(⟨by omega, by omega⟩ : inI64 _), ?_⟩
      | refine ⟨_, fun tm ha => step1_max rfl (ev_tmp ha rfl) (ev_tmp ha rfl), ?_⟩
      | refine ⟨_, fun tm ha => step1_min rfl (ev_tmp ha rfl) (ev_tmp ha rfl), ?_⟩
      | (refine ⟨fun _ => ?_, fun _ => ?_⟩ <;> first | (exfalso; omega) | skip)
      | fail
    refine (one_spec hb (by omega) hbx (by omega)).mono ?_
    rintro r Hq ⟨⟨c, rfl⟩, hbq, xq⟩
    have hdq := OwnD.box hds xq hbx
    have xxq := hkx.trans xq
    have lxq := xq.1
    cases c with
    | false =>
      obtain ⟨kd, od, pd, qd⟩ := okd
      obtain ⟨ke, oe, pe, qe⟩ := oke
      have hDq : Deeds Hq ds [d, e] := (hdq).row
      have hgtq : (Hq).get bt = some (Tc T A) := by rw [(xxq).2 bt (by omega) (by omega)]; exact hgt
      have hGq : Grid Hq A vals T.rs := (hG2.box xxq hb2).grid
      have lq := (xxq).1
      have hBq : H.n ≤ (Hq).n := by omega
      repeat' first
        | refine CO.cons rfl ?_
        | refine CO.nil ?_
        | refine CV.seq ?_
        | refine CV.region callees ?_
        | refine CV.cond ?_
        | refine CV.block ?_
        | refine CV.skip ?_
        | refine CV.exit ?_
        | refine CV.ret ?_
        | refine CV.scope ?_
        | refine CV.draw callees rfl ?_
        | refine CH.cons rfl ?_
        | refine CH.nil ?_
        | refine CO.consG rfl ?_
        | refine CH.consG rfl ?_
        | refine CG.cons rfl ?_
        | refine CR.cons ?_
        | refine CR.nil ?_
        | refine CG.nil ?_
        | refine CG.consG rfl ?_
        | refine ⟨(rfl : plain _ = true), ?_⟩
        | refine ⟨(rfl : nilOk _ = some _), ?_⟩
        | refine ⟨_, ints_len (by assumption), ?_⟩
        | refine ⟨_, ints_addr (by assumption) (by omega) (by omega), ?_⟩
        | refine ⟨_, ints_load (by assumption) (by omega) (by omega), ?_⟩
        | refine ⟨(⟨by omega, by omega⟩ : inI64 _), ?_⟩
        | refine ⟨_, fun tm ha => step1_max rfl (ev_tmp ha rfl) (ev_tmp ha rfl), ?_⟩
        | refine ⟨_, fun tm ha => step1_min rfl (ev_tmp ha rfl) (ev_tmp ha rfl), ?_⟩
        | (refine ⟨_, loadT hgtq, ?_⟩)
        | (refine ⟨fun _ => ?_, fun _ => ?_⟩ <;> first | (exfalso; omega) | skip)
        | fail
      refine (run_spec hBq hGq hVT hDq (fun i hi => by
        match i, hi with
        | 0, _ => exact kd
        | 1, _ => exact ke) (by show 2 ≤ 200; decide)).mono ?_
      rintro r Ha ⟨⟨A1, v1, ev1, rfl, hg1, he1⟩, ka⟩
      have la := ka.1
      rw [two_E kd ke] at he1
      repeat' first
        | refine CO.cons rfl ?_
        | refine CO.nil ?_
        | refine CV.seq ?_
        | refine CV.region callees ?_
        | refine CV.cond ?_
        | refine CV.block ?_
        | refine CV.skip ?_
        | refine CV.exit ?_
        | refine CV.ret ?_
        | refine CV.scope ?_
        | refine CV.draw callees rfl ?_
        | refine CH.cons rfl ?_
        | refine CH.nil ?_
        | refine CO.consG rfl ?_
        | refine CH.consG rfl ?_
        | refine CG.cons rfl ?_
        | refine CR.cons ?_
        | refine CR.nil ?_
        | refine CG.nil ?_
        | refine CG.consG rfl ?_
        | refine ⟨(rfl : plain _ = true), ?_⟩
        | refine ⟨(rfl : nilOk _ = some _), ?_⟩
        | refine ⟨_, ints_len (by assumption), ?_⟩
        | refine ⟨_, ints_addr (by assumption) (by omega) (by omega), ?_⟩
        | refine ⟨_, ints_load (by assumption) (by omega) (by omega), ?_⟩
        | refine ⟨(⟨by omega, by omega⟩ : inI64 _), ?_⟩
        | refine ⟨_, fun tm ha => step1_max rfl (ev_tmp ha rfl) (ev_tmp ha rfl), ?_⟩
        | refine ⟨_, fun tm ha => step1_min rfl (ev_tmp ha rfl) (ev_tmp ha rfl), ?_⟩
        | (refine ⟨_, _, allocT, ?_⟩)
        | (refine ⟨fun _ => ?_, fun _ => ?_⟩ <;> first | (exfalso; omega) | skip)
        | fail
      generalize hsa : Ha.new (Tc T0 (.slice none 0 0)) = Hb
      have hgb := new_get hsa
      have kb := new_keep hsa
      have nb := new_n hsa
      obtain ⟨bx, hbx⟩ : ∃ bx, Ha.n = bx := ⟨_, rfl⟩
      rw [hbx] at hgb nb ⊢
      refine ⟨_, _, storeT (t' := runT T [d, e]) hg1.oneC.1 hgb, by omega, ?_⟩
      generalize hsc : Hb.set bx _ = Hc
      have hgc := set_get hsc
      have nc := set_n hsc
      have kc : Keep Ha Hc := keep_put kb (by omega) (set_old hsc) nc
      have kqc := ka.trans kc
      have hg1c := hg1.keep kc
      have he1c := he1.keep kc
      have hgtc : Hc.get bt = some (Tc T A) := by rw [kqc.2 bt (by omega)]; exact hgtq
      have hDc : Deeds Hc ds [d, e] := RowS.keep hDq kqc
      have hGc := hGq.keep kqc
      have lc := kqc.1
      repeat' first
        | refine CO.cons rfl ?_
        | refine CO.nil ?_
        | refine CV.seq ?_
        | refine CV.region callees ?_
        | refine CV.cond ?_
        | refine CV.block ?_
        | refine CV.skip ?_
        | refine CV.exit ?_
        | refine CV.ret ?_
        | refine CV.scope ?_
        | refine CV.draw callees rfl ?_
        | refine CH.cons rfl ?_
        | refine CH.nil ?_
        | refine CO.consG rfl ?_
        | refine CH.consG rfl ?_
        | refine CG.cons rfl ?_
        | refine CR.cons ?_
        | refine CR.nil ?_
        | refine CG.nil ?_
        | refine CG.consG rfl ?_
        | refine ⟨(rfl : plain _ = true), ?_⟩
        | refine ⟨(rfl : nilOk _ = some _), ?_⟩
        | refine ⟨_, ints_len (by assumption), ?_⟩
        | refine ⟨_, ints_addr (by assumption) (by omega) (by omega), ?_⟩
        | refine ⟨_, ints_load (by assumption) (by omega) (by omega), ?_⟩
        | refine ⟨(⟨by omega, by omega⟩ : inI64 _), ?_⟩
        | refine ⟨_, fun tm ha => step1_max rfl (ev_tmp ha rfl) (ev_tmp ha rfl), ?_⟩
        | refine ⟨_, fun tm ha => step1_min rfl (ev_tmp ha rfl) (ev_tmp ha rfl), ?_⟩
        | refine CV.al callees rfl 13 [(0, []), (1, []), (2, []), (3, []), (4, []), (5, []), (6, []), (7, [0]), (8, []), (9, []), (10, []), (11, []), (12, []), (13, []), (14, []), (15, []), (16, [])] (by kernel_rfl) rfl allocT ?_
        | (refine ⟨_, loadT hgtc, ?_⟩)
        | (refine ⟨_, d2_addr0 hDc, ?_⟩)
        | (refine ⟨_, d2_addr1 hDc, ?_⟩)
        | (refine ⟨_, d2_load0 hDc, ?_⟩)
        | (refine ⟨_, d2_load1 hDc, ?_⟩)
        | (refine ⟨_, _, buildD2, ?_⟩)
        | (refine ⟨fun _ => ?_, fun _ => ?_⟩ <;> first | (exfalso; omega) | skip)
        | fail
      generalize hsd : Hc.new _ = Hd
      have hDd : Deeds Hd (.slice (some ⟨Hc.n, 0, none⟩) 2 0) [e, d] := new_deeds hsd
      have kd1 := new_keep hsd
      have ld := kd1.1
      refine (run_spec (by omega) (hGc.keep kd1) hVT hDd (fun i hi => by
        match i, hi with
        | 0, _ => exact ke
        | 1, _ => exact kd) (by show 2 ≤ 200; decide)).mono ?_
      rintro r He ⟨⟨A2, v2, ev2, rfl, hg2, he2⟩, ke1⟩
      have le := ke1.1
      rw [two_E ke kd] at he2
      repeat' first
        | refine CO.cons rfl ?_
        | refine CO.nil ?_
        | refine CV.seq ?_
        | refine CV.region callees ?_
        | refine CV.cond ?_
        | refine CV.block ?_
        | refine CV.skip ?_
        | refine CV.exit ?_
        | refine CV.ret ?_
        | refine CV.scope ?_
        | refine CV.draw callees rfl ?_
        | refine CH.cons rfl ?_
        | refine CH.nil ?_
        | refine CO.consG rfl ?_
        | refine CH.consG rfl ?_
        | refine CG.cons rfl ?_
        | refine CR.cons ?_
        | refine CR.nil ?_
        | refine CG.nil ?_
        | refine CG.consG rfl ?_
        | refine ⟨(rfl : plain _ = true), ?_⟩
        | refine ⟨(rfl : nilOk _ = some _), ?_⟩
        | refine ⟨_, ints_len (by assumption), ?_⟩
        | refine ⟨_, ints_addr (by assumption) (by omega) (by omega), ?_⟩
        | refine ⟨_, ints_load (by assumption) (by omega) (by omega), ?_⟩
        | refine ⟨(⟨by omega, by omega⟩ : inI64 _), ?_⟩
        | refine ⟨_, fun tm ha => step1_max rfl (ev_tmp ha rfl) (ev_tmp ha rfl), ?_⟩
        | refine ⟨_, fun tm ha => step1_min rfl (ev_tmp ha rfl) (ev_tmp ha rfl), ?_⟩
        | (refine ⟨_, _, allocT, ?_⟩)
        | (refine ⟨fun _ => ?_, fun _ => ?_⟩ <;> first | (exfalso; omega) | skip)
        | fail
      generalize hse : He.new (Tc T0 (.slice none 0 0)) = Hf
      have hgf := new_get hse
      have kf := new_keep hse
      have nf := new_n hse
      obtain ⟨by', hby⟩ : ∃ by', He.n = by' := ⟨_, rfl⟩
      rw [hby] at hgf nf ⊢
      refine ⟨_, _, storeT (t' := runT T [e, d]) hg2.oneC.1 hgf, by omega, ?_⟩
      generalize hsg : Hf.set by' _ = Hg
      have hgg := set_get hsg
      have ng := set_n hsg
      have kg : Keep He Hg := keep_put kf (by omega) (set_old hsg) ng
      have kcg := (kd1.trans ke1).trans kg
      have hg1g := hg1c.keep kcg
      have he1g := he1c.keep kcg
      have hg2g := hg2.keep kg
      have he2g := he2.keep kg
      have hgcg : Hg.get bx = some (Tc (runT T [d, e]) A1) := by rw [kcg.2 bx (by omega)]; exact hgc
      have hgtg : Hg.get bt = some (Tc T A) := by rw [kcg.2 bt (by omega)]; exact hgtc
      have hDg : Deeds Hg ds [d, e] := RowS.keep hDc kcg
      have hGg := hGc.keep kcg
      have lg := kcg.1
      obtain ⟨sl, hsl, hDs⟩ := RowS.slice_one hDg un56 szD
      repeat' first
        | refine CO.cons rfl ?_
        | refine CO.nil ?_
        | refine CV.seq ?_
        | refine CV.region callees ?_
        | refine CV.cond ?_
        | refine CV.block ?_
        | refine CV.skip ?_
        | refine CV.exit ?_
        | refine CV.ret ?_
        | refine CV.scope ?_
        | refine CV.draw callees rfl ?_
        | refine CH.cons rfl ?_
        | refine CH.nil ?_
        | refine CO.consG rfl ?_
        | refine CH.consG rfl ?_
        | refine CG.cons rfl ?_
        | refine CR.cons ?_
        | refine CR.nil ?_
        | refine CG.nil ?_
        | refine CG.consG rfl ?_
        | refine ⟨(rfl : plain _ = true), ?_⟩
        | refine ⟨(rfl : nilOk _ = some _), ?_⟩
        | refine ⟨_, ints_len (by assumption), ?_⟩
        | refine ⟨_, ints_addr (by assumption) (by omega) (by omega), ?_⟩
        | refine ⟨_, ints_load (by assumption) (by omega) (by omega), ?_⟩
        | refine ⟨(⟨by omega, by omega⟩ : inI64 _), ?_⟩
        | refine ⟨_, fun tm ha => step1_max rfl (ev_tmp ha rfl) (ev_tmp ha rfl), ?_⟩
        | refine ⟨_, fun tm ha => step1_min rfl (ev_tmp ha rfl) (ev_tmp ha rfl), ?_⟩
        | refine CV.al callees rfl 8 [(0, []), (1, []), (2, []), (3, []), (4, []), (5, []), (6, []), (7, []), (8, []), (9, []), (10, []), (11, [])] (by kernel_rfl) rfl allocT ?_
        | (refine ⟨_, loadT hgtg, ?_⟩)
        | (refine ⟨_, hsl, ?_⟩)
        | (refine ⟨fun _ => ?_, fun _ => ?_⟩ <;> first | (exfalso; omega) | skip)
        | fail
      refine (run_spec (by omega) hGg hVT (ds := [e]) hDs (fun i hi => by
        match i, hi with
        | 0, _ => exact ke) (by show 1 ≤ 200; decide)).mono ?_
      rintro r Hh ⟨⟨A3, v3, ev3, rfl, hg3, he3⟩, kh⟩
      have lh := kh.1
      repeat' first
        | refine CO.cons rfl ?_
        | refine CO.nil ?_
        | refine CV.seq ?_
        | refine CV.region callees ?_
        | refine CV.cond ?_
        | refine CV.block ?_
        | refine CV.skip ?_
        | refine CV.exit ?_
        | refine CV.ret ?_
        | refine CV.scope ?_
        | refine CV.draw callees rfl ?_
        | refine CH.cons rfl ?_
        | refine CH.nil ?_
        | refine CO.consG rfl ?_
        | refine CH.consG rfl ?_
        | refine CG.cons rfl ?_
        | refine CR.cons ?_
        | refine CR.nil ?_
        | refine CG.nil ?_
        | refine CG.consG rfl ?_
        | refine ⟨(rfl : plain _ = true), ?_⟩
        | refine ⟨(rfl : nilOk _ = some _), ?_⟩
        | refine ⟨_, ints_len (by assumption), ?_⟩
        | refine ⟨_, ints_addr (by assumption) (by omega) (by omega), ?_⟩
        | refine ⟨_, ints_load (by assumption) (by omega) (by omega), ?_⟩
        | refine ⟨(⟨by omega, by omega⟩ : inI64 _), ?_⟩
        | refine ⟨_, fun tm ha => step1_max rfl (ev_tmp ha rfl) (ev_tmp ha rfl), ?_⟩
        | refine ⟨_, fun tm ha => step1_min rfl (ev_tmp ha rfl) (ev_tmp ha rfl), ?_⟩
        | (refine ⟨_, _, allocT, ?_⟩)
        | (refine ⟨fun _ => ?_, fun _ => ?_⟩ <;> first | (exfalso; omega) | skip)
        | fail
      generalize hsh : Hh.new (Tc T0 (.slice none 0 0)) = Hi
      have hgi := new_get hsh
      have ki := new_keep hsh
      have ni := new_n hsh
      obtain ⟨bz, hbz⟩ : ∃ bz, Hh.n = bz := ⟨_, rfl⟩
      rw [hbz] at hgi ni ⊢
      refine ⟨_, _, storeT (t' := runT T [e]) hg3.oneC.1 hgi, by omega, ?_⟩
      generalize hsj : Hi.set bz _ = Hj
      have hgj := set_get hsj
      have nj := set_n hsj
      have kj : Keep Hh Hj := keep_put ki (by omega) (set_old hsj) nj
      have kgj := kh.trans kj
      have hg1j := hg1g.keep kgj
      have he1j := he1g.keep kgj
      have hg2j := hg2g.keep kgj
      have he2j := he2g.keep kgj
      have hg3j := hg3.keep kj
      have hgxj : Hj.get bx = some (Tc (runT T [d, e]) A1) := by rw [kgj.2 bx (by omega)]; exact hgcg
      have hgyj : Hj.get by' = some (Tc (runT T [e, d]) A2) := by rw [kgj.2 by' (by omega)]; exact hgg
      have hDj : Deeds Hj ds [d, e] := RowS.keep hDg kgj
      obtain ⟨n1, a10, a11, l10, l11⟩ := errs_at he1j
      obtain ⟨n2, a20, a21, l20, l21⟩ := errs_at he2j
      have lj := kgj.1
      have hBj : H.n ≤ Hj.n := by omega
      have hgzj : Hj.get bz = some (Tc (runT T [e]) A3) := hgj
      by_cases hgs : d.gs = e.gs
      · by_cases hpc : d.pc = e.pc
        · have hE : runT T [d, e] = runT T [e] := write_twice kd ke hgs hpc qd qe
          rw [hE] at hgxj hg1j
          repeat' first
            | refine CO.cons rfl ?_
            | refine CO.nil ?_
            | refine CV.seq ?_
            | refine CV.region callees ?_
            | refine CV.cond ?_
            | refine CV.block ?_
            | refine CV.skip ?_
            | refine CV.exit ?_
            | refine CV.ret ?_
            | refine CV.scope ?_
            | refine CV.draw callees rfl ?_
            | refine CH.cons rfl ?_
            | refine CH.nil ?_
            | refine CO.consG rfl ?_
            | refine CH.consG rfl ?_
            | refine CG.cons rfl ?_
            | refine CR.cons ?_
            | refine CR.nil ?_
            | refine CG.nil ?_
            | refine CG.consG rfl ?_
            | refine ⟨(rfl : plain _ = true), ?_⟩
            | refine ⟨(rfl : nilOk _ = some _), ?_⟩
            | refine ⟨_, ints_len (by assumption), ?_⟩
            | refine ⟨_, ints_addr (by assumption) (by omega) (by omega), ?_⟩
            | refine ⟨_, ints_load (by assumption) (by omega) (by omega), ?_⟩
            | refine ⟨(⟨by omega, by omega⟩ : inI64 _), ?_⟩
            | refine ⟨_, fun tm ha => step1_max rfl (ev_tmp ha rfl) (ev_tmp ha rfl), ?_⟩
            | refine ⟨_, fun tm ha => step1_min rfl (ev_tmp ha rfl) (ev_tmp ha rfl), ?_⟩
            | (refine ⟨_, n1, ?_⟩)
            | (refine ⟨_, n2, ?_⟩)
            | (refine ⟨_, a10, ?_⟩)
            | (refine ⟨_, a11, ?_⟩)
            | (refine ⟨_, a20, ?_⟩)
            | (refine ⟨_, a21, ?_⟩)
            | (refine ⟨_, l10, ?_⟩)
            | (refine ⟨_, l11, ?_⟩)
            | (refine ⟨_, l20, ?_⟩)
            | (refine ⟨_, l21, ?_⟩)
            | (refine ⟨_, d2_addr0 hDj, ?_⟩)
            | (refine ⟨_, d2_addr1 hDj, ?_⟩)
            | (refine ⟨_, d2_field hDj (by decide) (by decide), ?_⟩)
            | (refine ⟨_, d2_g0 hDj, ?_⟩)
            | (refine ⟨_, d2_g1 hDj, ?_⟩)
            | (refine ⟨_, d2_p0 hDj, ?_⟩)
            | (refine ⟨_, d2_p1 hDj, ?_⟩)
            | (refine ⟨_, loadT hgxj, ?_⟩)
            | (refine ⟨_, loadT hgzj, ?_⟩)
            | (refine ⟨fun _ => ?_, fun _ => ?_⟩ <;> first | (exfalso; omega) | skip)
            | fail
          refine (eqTables_spec (t := runT T [e]) (by omega) hg1j hg3j (Vt.run _ hVT)).mono ?_
          rintro r Hk ⟨rfl, kk⟩
          have lk := kk.1
          repeat' first
            | refine CO.cons rfl ?_
            | refine CO.nil ?_
            | refine CV.seq ?_
            | refine CV.region callees ?_
            | refine CV.cond ?_
            | refine CV.block ?_
            | refine CV.skip ?_
            | refine CV.exit ?_
            | refine CV.ret ?_
            | refine CV.scope ?_
            | refine CV.draw callees rfl ?_
            | refine CH.cons rfl ?_
            | refine CH.nil ?_
            | refine CO.consG rfl ?_
            | refine CH.consG rfl ?_
            | refine CG.cons rfl ?_
            | refine CR.cons ?_
            | refine CR.nil ?_
            | refine CG.nil ?_
            | refine CG.consG rfl ?_
            | refine ⟨(rfl : plain _ = true), ?_⟩
            | refine ⟨(rfl : nilOk _ = some _), ?_⟩
            | refine ⟨_, ints_len (by assumption), ?_⟩
            | refine ⟨_, ints_addr (by assumption) (by omega) (by omega), ?_⟩
            | refine ⟨_, ints_load (by assumption) (by omega) (by omega), ?_⟩
            | refine ⟨(⟨by omega, by omega⟩ : inI64 _), ?_⟩
            | refine ⟨_, fun tm ha => step1_max rfl (ev_tmp ha rfl) (ev_tmp ha rfl), ?_⟩
            | refine ⟨_, fun tm ha => step1_min rfl (ev_tmp ha rfl) (ev_tmp ha rfl), ?_⟩
            | refine CallB.known rfl (base_any _) (by omega) ?_
            | (refine ⟨fun _ => ?_, fun _ => ?_⟩ <;> first | (exfalso; omega) | skip)
            | fail
          exact ⟨rfl, rfl⟩
        · have hE : runT T [d, e] = runT T [e, d] := write_comm kd ke ⟨od, pd⟩ ⟨oe, pe⟩ (.inr hpc)
          rw [hE] at hgxj hg1j
          repeat' first
            | refine CO.cons rfl ?_
            | refine CO.nil ?_
            | refine CV.seq ?_
            | refine CV.region callees ?_
            | refine CV.cond ?_
            | refine CV.block ?_
            | refine CV.skip ?_
            | refine CV.exit ?_
            | refine CV.ret ?_
            | refine CV.scope ?_
            | refine CV.draw callees rfl ?_
            | refine CH.cons rfl ?_
            | refine CH.nil ?_
            | refine CO.consG rfl ?_
            | refine CH.consG rfl ?_
            | refine CG.cons rfl ?_
            | refine CR.cons ?_
            | refine CR.nil ?_
            | refine CG.nil ?_
            | refine CG.consG rfl ?_
            | refine ⟨(rfl : plain _ = true), ?_⟩
            | refine ⟨(rfl : nilOk _ = some _), ?_⟩
            | refine ⟨_, ints_len (by assumption), ?_⟩
            | refine ⟨_, ints_addr (by assumption) (by omega) (by omega), ?_⟩
            | refine ⟨_, ints_load (by assumption) (by omega) (by omega), ?_⟩
            | refine ⟨(⟨by omega, by omega⟩ : inI64 _), ?_⟩
            | refine ⟨_, fun tm ha => step1_max rfl (ev_tmp ha rfl) (ev_tmp ha rfl), ?_⟩
            | refine ⟨_, fun tm ha => step1_min rfl (ev_tmp ha rfl) (ev_tmp ha rfl), ?_⟩
            | (refine ⟨_, n1, ?_⟩)
            | (refine ⟨_, n2, ?_⟩)
            | (refine ⟨_, a10, ?_⟩)
            | (refine ⟨_, a11, ?_⟩)
            | (refine ⟨_, a20, ?_⟩)
            | (refine ⟨_, a21, ?_⟩)
            | (refine ⟨_, l10, ?_⟩)
            | (refine ⟨_, l11, ?_⟩)
            | (refine ⟨_, l20, ?_⟩)
            | (refine ⟨_, l21, ?_⟩)
            | (refine ⟨_, d2_addr0 hDj, ?_⟩)
            | (refine ⟨_, d2_addr1 hDj, ?_⟩)
            | (refine ⟨_, d2_field hDj (by decide) (by decide), ?_⟩)
            | (refine ⟨_, d2_g0 hDj, ?_⟩)
            | (refine ⟨_, d2_g1 hDj, ?_⟩)
            | (refine ⟨_, d2_p0 hDj, ?_⟩)
            | (refine ⟨_, d2_p1 hDj, ?_⟩)
            | (refine ⟨_, loadT hgxj, ?_⟩)
            | (refine ⟨_, loadT hgyj, ?_⟩)
            | (refine ⟨fun _ => ?_, fun _ => ?_⟩ <;> first | (exfalso; omega) | skip)
            | fail
          refine (eqTables_spec (t := runT T [e, d]) (by omega) hg1j hg2j (Vt.run _ hVT)).mono ?_
          rintro r Hk ⟨rfl, kk⟩
          have lk := kk.1
          repeat' first
            | refine CO.cons rfl ?_
            | refine CO.nil ?_
            | refine CV.seq ?_
            | refine CV.region callees ?_
            | refine CV.cond ?_
            | refine CV.block ?_
            | refine CV.skip ?_
            | refine CV.exit ?_
            | refine CV.ret ?_
            | refine CV.scope ?_
            | refine CV.draw callees rfl ?_
            | refine CH.cons rfl ?_
            | refine CH.nil ?_
            | refine CO.consG rfl ?_
            | refine CH.consG rfl ?_
            | refine CG.cons rfl ?_
            | refine CR.cons ?_
            | refine CR.nil ?_
            | refine CG.nil ?_
            | refine CG.consG rfl ?_
            | refine ⟨(rfl : plain _ = true), ?_⟩
            | refine ⟨(rfl : nilOk _ = some _), ?_⟩
            | refine ⟨_, ints_len (by assumption), ?_⟩
            | refine ⟨_, ints_addr (by assumption) (by omega) (by omega), ?_⟩
            | refine ⟨_, ints_load (by assumption) (by omega) (by omega), ?_⟩
            | refine ⟨(⟨by omega, by omega⟩ : inI64 _), ?_⟩
            | refine ⟨_, fun tm ha => step1_max rfl (ev_tmp ha rfl) (ev_tmp ha rfl), ?_⟩
            | refine ⟨_, fun tm ha => step1_min rfl (ev_tmp ha rfl) (ev_tmp ha rfl), ?_⟩
            | refine CallB.known rfl (base_any _) (by omega) ?_
            | (refine ⟨fun _ => ?_, fun _ => ?_⟩ <;> first | (exfalso; omega) | skip)
            | fail
          exact ⟨rfl, rfl⟩
      · have hE : runT T [d, e] = runT T [e, d] := write_comm kd ke ⟨od, pd⟩ ⟨oe, pe⟩ (.inl hgs)
        rw [hE] at hgxj hg1j
        repeat' first
          | refine CO.cons rfl ?_
          | refine CO.nil ?_
          | refine CV.seq ?_
          | refine CV.region callees ?_
          | refine CV.cond ?_
          | refine CV.block ?_
          | refine CV.skip ?_
          | refine CV.exit ?_
          | refine CV.ret ?_
          | refine CV.scope ?_
          | refine CV.draw callees rfl ?_
          | refine CH.cons rfl ?_
          | refine CH.nil ?_
          | refine CO.consG rfl ?_
          | refine CH.consG rfl ?_
          | refine CG.cons rfl ?_
          | refine CR.cons ?_
          | refine CR.nil ?_
          | refine CG.nil ?_
          | refine CG.consG rfl ?_
          | refine ⟨(rfl : plain _ = true), ?_⟩
          | refine ⟨(rfl : nilOk _ = some _), ?_⟩
          | refine ⟨_, ints_len (by assumption), ?_⟩
          | refine ⟨_, ints_addr (by assumption) (by omega) (by omega), ?_⟩
          | refine ⟨_, ints_load (by assumption) (by omega) (by omega), ?_⟩
          | refine ⟨(⟨by omega, by omega⟩ : inI64 _), ?_⟩
          | refine ⟨_, fun tm ha => step1_max rfl (ev_tmp ha rfl) (ev_tmp ha rfl), ?_⟩
          | refine ⟨_, fun tm ha => step1_min rfl (ev_tmp ha rfl) (ev_tmp ha rfl), ?_⟩
          | (refine ⟨_, n1, ?_⟩)
          | (refine ⟨_, n2, ?_⟩)
          | (refine ⟨_, a10, ?_⟩)
          | (refine ⟨_, a11, ?_⟩)
          | (refine ⟨_, a20, ?_⟩)
          | (refine ⟨_, a21, ?_⟩)
          | (refine ⟨_, l10, ?_⟩)
          | (refine ⟨_, l11, ?_⟩)
          | (refine ⟨_, l20, ?_⟩)
          | (refine ⟨_, l21, ?_⟩)
          | (refine ⟨_, d2_addr0 hDj, ?_⟩)
          | (refine ⟨_, d2_addr1 hDj, ?_⟩)
          | (refine ⟨_, d2_field hDj (by decide) (by decide), ?_⟩)
          | (refine ⟨_, d2_g0 hDj, ?_⟩)
          | (refine ⟨_, d2_g1 hDj, ?_⟩)
          | (refine ⟨_, d2_p0 hDj, ?_⟩)
          | (refine ⟨_, d2_p1 hDj, ?_⟩)
          | (refine ⟨_, loadT hgxj, ?_⟩)
          | (refine ⟨_, loadT hgyj, ?_⟩)
          | (refine ⟨fun _ => ?_, fun _ => ?_⟩ <;> first | (exfalso; omega) | skip)
          | fail
        refine (eqTables_spec (t := runT T [e, d]) (by omega) hg1j hg2j (Vt.run _ hVT)).mono ?_
        rintro r Hk ⟨rfl, kk⟩
        have lk := kk.1
        repeat' first
          | refine CO.cons rfl ?_
          | refine CO.nil ?_
          | refine CV.seq ?_
          | refine CV.region callees ?_
          | refine CV.cond ?_
          | refine CV.block ?_
          | refine CV.skip ?_
          | refine CV.exit ?_
          | refine CV.ret ?_
          | refine CV.scope ?_
          | refine CV.draw callees rfl ?_
          | refine CH.cons rfl ?_
          | refine CH.nil ?_
          | refine CO.consG rfl ?_
          | refine CH.consG rfl ?_
          | refine CG.cons rfl ?_
          | refine CR.cons ?_
          | refine CR.nil ?_
          | refine CG.nil ?_
          | refine CG.consG rfl ?_
          | refine ⟨(rfl : plain _ = true), ?_⟩
          | refine ⟨(rfl : nilOk _ = some _), ?_⟩
          | refine ⟨_, ints_len (by assumption), ?_⟩
          | refine ⟨_, ints_addr (by assumption) (by omega) (by omega), ?_⟩
          | refine ⟨_, ints_load (by assumption) (by omega) (by omega), ?_⟩
          | refine ⟨(⟨by omega, by omega⟩ : inI64 _), ?_⟩
          | refine ⟨_, fun tm ha => step1_max rfl (ev_tmp ha rfl) (ev_tmp ha rfl), ?_⟩
          | refine ⟨_, fun tm ha => step1_min rfl (ev_tmp ha rfl) (ev_tmp ha rfl), ?_⟩
          | refine CallB.known rfl (base_any _) (by omega) ?_
          | (refine ⟨fun _ => ?_, fun _ => ?_⟩ <;> first | (exfalso; omega) | skip)
          | fail
        exact ⟨rfl, rfl⟩
    | true =>
      have hDq := hdq.row
      repeat' first
        | refine CO.cons rfl ?_
        | refine CO.nil ?_
        | refine CV.seq ?_
        | refine CV.region callees ?_
        | refine CV.cond ?_
        | refine CV.block ?_
        | refine CV.skip ?_
        | refine CV.exit ?_
        | refine CV.ret ?_
        | refine CV.scope ?_
        | refine CV.draw callees rfl ?_
        | refine CH.cons rfl ?_
        | refine CH.nil ?_
        | refine CO.consG rfl ?_
        | refine CH.consG rfl ?_
        | refine CG.cons rfl ?_
        | refine CR.cons ?_
        | refine CR.nil ?_
        | refine CG.nil ?_
        | refine CG.consG rfl ?_
        | refine ⟨(rfl : plain _ = true), ?_⟩
        | refine ⟨(rfl : nilOk _ = some _), ?_⟩
        | refine ⟨_, ints_len (by assumption), ?_⟩
        | refine ⟨_, ints_addr (by assumption) (by omega) (by omega), ?_⟩
        | refine ⟨_, ints_load (by assumption) (by omega) (by omega), ?_⟩
        | refine ⟨(⟨by omega, by omega⟩ : inI64 _), ?_⟩
        | refine ⟨_, fun tm ha => step1_max rfl (ev_tmp ha rfl) (ev_tmp ha rfl), ?_⟩
        | refine ⟨_, fun tm ha => step1_min rfl (ev_tmp ha rfl) (ev_tmp ha rfl), ?_⟩
        | (refine ⟨_, d2_addr0 hDq, ?_⟩)
        | (refine ⟨_, d2_addr1 hDq, ?_⟩)
        | (refine ⟨_, d2_field hDq (by decide) (by decide), ?_⟩)
        | (refine ⟨_, d2_g0 hDq, ?_⟩)
        | (refine ⟨_, d2_p0 hDq, ?_⟩)
        | (refine ⟨fun _ => ?_, fun _ => ?_⟩ <;> first | (exfalso; omega) | skip)
        | fail
      refine d2_store hdq (by omega) (by decide) ?_
      intro Hr ho1 kb1
      have ho1' : OwnD Hr ds [d, ⟨e.kd, d.gs, e.pc, e.nm⟩] H2.n := ho1
      have lr := kb1.le
      repeat' first
        | refine CO.cons rfl ?_
        | refine CO.nil ?_
        | refine CV.seq ?_
        | refine CV.region callees ?_
        | refine CV.cond ?_
        | refine CV.block ?_
        | refine CV.skip ?_
        | refine CV.exit ?_
        | refine CV.ret ?_
        | refine CV.scope ?_
        | refine CV.draw callees rfl ?_
        | refine CH.cons rfl ?_
        | refine CH.nil ?_
        | refine CO.consG rfl ?_
        | refine CH.consG rfl ?_
        | refine CG.cons rfl ?_
        | refine CR.cons ?_
        | refine CR.nil ?_
        | refine CG.nil ?_
        | refine CG.consG rfl ?_
        | refine ⟨(rfl : plain _ = true), ?_⟩
        | refine ⟨(rfl : nilOk _ = some _), ?_⟩
        | refine ⟨_, ints_len (by assumption), ?_⟩
        | refine ⟨_, ints_addr (by assumption) (by omega) (by omega), ?_⟩
        | refine ⟨_, ints_load (by assumption) (by omega) (by omega), ?_⟩
        | refine ⟨(⟨by omega, by omega⟩ : inI64 _), ?_⟩
        | refine ⟨_, fun tm ha => step1_max rfl (ev_tmp ha rfl) (ev_tmp ha rfl), ?_⟩
        | refine ⟨_, fun tm ha => step1_min rfl (ev_tmp ha rfl) (ev_tmp ha rfl), ?_⟩
        | (refine ⟨_, d2_addr0 ho1'.row, ?_⟩)
        | (refine ⟨_, d2_addr1 ho1'.row, ?_⟩)
        | (refine ⟨_, d2_field ho1'.row (by decide) (by decide), ?_⟩)
        | (refine ⟨fun _ => ?_, fun _ => ?_⟩ <;> first | (exfalso; omega) | skip)
        | fail
      refine d2_store (d := d) (e := ⟨e.kd, d.gs, e.pc, e.nm⟩) ho1' (by omega) (by decide) ?_
      intro Hs ho2 kb2
      have hdS : OwnD Hs ds [d, ⟨e.kd, d.gs, d.pc, e.nm⟩] H2.n := ho2
      have hap : blkOf ds ≠ some b := fun h => by have := (hdq.lt h).1; omega
      have hbS : Box b Hs := (hbq.keepBut kb1 hap).keepBut kb2 hap
      have xS : KeepX b H2 Hs := kb2.keepX (kb1.keepX xxq (fun c hc => (hdq.lt hc).1)) (fun c hc => (hdq.lt hc).1)
      have ls := kb2.le
      have oke2 : okD T ⟨e.kd, d.gs, d.pc, e.nm⟩ := ⟨oke.1, okd.2.1, okd.2.2.1, oke.2.2.2⟩
      generalize (⟨e.kd, d.gs, d.pc, e.nm⟩ : Dd) = e at hdS oke2
      obtain ⟨kd, od, pd, qd⟩ := okd
      obtain ⟨ke, oe, pe, qe⟩ := oke2
      have hDq : Deeds Hs ds [d, e] := (hdS).row
      have hgtq : (Hs).get bt = some (Tc T A) := by rw [(xS).2 bt (by omega) (by omega)]; exact hgt
      have hGq : Grid Hs A vals T.rs := (hG2.box xS hb2).grid
      have lq := (xS).1
      have hBq : H.n ≤ (Hs).n := by omega
      repeat' first
        | refine CO.cons rfl ?_
        | refine CO.nil ?_
        | refine CV.seq ?_
        | refine CV.region callees ?_
        | refine CV.cond ?_
        | refine CV.block ?_
        | refine CV.skip ?_
        | refine CV.exit ?_
        | refine CV.ret ?_
        | refine CV.scope ?_
        | refine CV.draw callees rfl ?_
        | refine CH.cons rfl ?_
        | refine CH.nil ?_
        | refine CO.consG rfl ?_
        | refine CH.consG rfl ?_
        | refine CG.cons rfl ?_
        | refine CR.cons ?_
        | refine CR.nil ?_
        | refine CG.nil ?_
        | refine CG.consG rfl ?_
        | refine ⟨(rfl : plain _ = true), ?_⟩
        | refine ⟨(rfl : nilOk _ = some _), ?_⟩
        | refine ⟨_, ints_len (by assumption), ?_⟩
        | refine ⟨_, ints_addr (by assumption) (by omega) (by omega), ?_⟩
        | refine ⟨_, ints_load (by assumption) (by omega) (by omega), ?_⟩
        | refine ⟨(⟨by omega, by omega⟩ : inI64 _), ?_⟩
        | refine ⟨_, fun tm ha => step1_max rfl (ev_tmp ha rfl) (ev_tmp ha rfl), ?_⟩
        | refine ⟨_, fun tm ha => step1_min rfl (ev_tmp ha rfl) (ev_tmp ha rfl), ?_⟩
        | (refine ⟨_, loadT hgtq, ?_⟩)
        | (refine ⟨fun _ => ?_, fun _ => ?_⟩ <;> first | (exfalso; omega) | skip)
        | fail
      refine (run_spec hBq hGq hVT hDq (fun i hi => by
        match i, hi with
        | 0, _ => exact kd
        | 1, _ => exact ke) (by show 2 ≤ 200; decide)).mono ?_
      rintro r Ha ⟨⟨A1, v1, ev1, rfl, hg1, he1⟩, ka⟩
      have la := ka.1
      rw [two_E kd ke] at he1
      repeat' first
        | refine CO.cons rfl ?_
        | refine CO.nil ?_
        | refine CV.seq ?_
        | refine CV.region callees ?_
        | refine CV.cond ?_
        | refine CV.block ?_
        | refine CV.skip ?_
        | refine CV.exit ?_
        | refine CV.ret ?_
        | refine CV.scope ?_
        | refine CV.draw callees rfl ?_
        | refine CH.cons rfl ?_
        | refine CH.nil ?_
        | refine CO.consG rfl ?_
        | refine CH.consG rfl ?_
        | refine CG.cons rfl ?_
        | refine CR.cons ?_
        | refine CR.nil ?_
        | refine CG.nil ?_
        | refine CG.consG rfl ?_
        | refine ⟨(rfl : plain _ = true), ?_⟩
        | refine ⟨(rfl : nilOk _ = some _), ?_⟩
        | refine ⟨_, ints_len (by assumption), ?_⟩
        | refine ⟨_, ints_addr (by assumption) (by omega) (by omega), ?_⟩
        | refine ⟨_, ints_load (by assumption) (by omega) (by omega), ?_⟩
        | refine ⟨(⟨by omega, by omega⟩ : inI64 _), ?_⟩
        | refine ⟨_, fun tm ha => step1_max rfl (ev_tmp ha rfl) (ev_tmp ha rfl), ?_⟩
        | refine ⟨_, fun tm ha => step1_min rfl (ev_tmp ha rfl) (ev_tmp ha rfl), ?_⟩
        | (refine ⟨_, _, allocT, ?_⟩)
        | (refine ⟨fun _ => ?_, fun _ => ?_⟩ <;> first | (exfalso; omega) | skip)
        | fail
      generalize hsa : Ha.new (Tc T0 (.slice none 0 0)) = Hb
      have hgb := new_get hsa
      have kb := new_keep hsa
      have nb := new_n hsa
      obtain ⟨bx, hbx⟩ : ∃ bx, Ha.n = bx := ⟨_, rfl⟩
      rw [hbx] at hgb nb ⊢
      refine ⟨_, _, storeT (t' := runT T [d, e]) hg1.oneC.1 hgb, by omega, ?_⟩
      generalize hsc : Hb.set bx _ = Hc
      have hgc := set_get hsc
      have nc := set_n hsc
      have kc : Keep Ha Hc := keep_put kb (by omega) (set_old hsc) nc
      have kqc := ka.trans kc
      have hg1c := hg1.keep kc
      have he1c := he1.keep kc
      have hgtc : Hc.get bt = some (Tc T A) := by rw [kqc.2 bt (by omega)]; exact hgtq
      have hDc : Deeds Hc ds [d, e] := RowS.keep hDq kqc
      have hGc := hGq.keep kqc
      have lc := kqc.1
      repeat' first
        | refine CO.cons rfl ?_
        | refine CO.nil ?_
        | refine CV.seq ?_
        | refine CV.region callees ?_
        | refine CV.cond ?_
        | refine CV.block ?_
        | refine CV.skip ?_
        | refine CV.exit ?_
        | refine CV.ret ?_
        | refine CV.scope ?_
        | refine CV.draw callees rfl ?_
        | refine CH.cons rfl ?_
        | refine CH.nil ?_
        | refine CO.consG rfl ?_
        | refine CH.consG rfl ?_
        | refine CG.cons rfl ?_
        | refine CR.cons ?_
        | refine CR.nil ?_
        | refine CG.nil ?_
        | refine CG.consG rfl ?_
        | refine ⟨(rfl : plain _ = true), ?_⟩
        | refine ⟨(rfl : nilOk _ = some _), ?_⟩
        | refine ⟨_, ints_len (by assumption), ?_⟩
        | refine ⟨_, ints_addr (by assumption) (by omega) (by omega), ?_⟩
        | refine ⟨_, ints_load (by assumption) (by omega) (by omega), ?_⟩
        | refine ⟨(⟨by omega, by omega⟩ : inI64 _), ?_⟩
        | refine ⟨_, fun tm ha => step1_max rfl (ev_tmp ha rfl) (ev_tmp ha rfl), ?_⟩
        | refine ⟨_, fun tm ha => step1_min rfl (ev_tmp ha rfl) (ev_tmp ha rfl), ?_⟩
        | refine CV.al callees rfl 13 [(0, []), (1, []), (2, []), (3, []), (4, []), (5, []), (6, []), (7, [0]), (8, []), (9, []), (10, []), (11, []), (12, []), (13, []), (14, []), (15, []), (16, [])] (by kernel_rfl) rfl allocT ?_
        | (refine ⟨_, loadT hgtc, ?_⟩)
        | (refine ⟨_, d2_addr0 hDc, ?_⟩)
        | (refine ⟨_, d2_addr1 hDc, ?_⟩)
        | (refine ⟨_, d2_load0 hDc, ?_⟩)
        | (refine ⟨_, d2_load1 hDc, ?_⟩)
        | (refine ⟨_, _, buildD2, ?_⟩)
        | (refine ⟨fun _ => ?_, fun _ => ?_⟩ <;> first | (exfalso; omega) | skip)
        | fail
      generalize hsd : Hc.new _ = Hd
      have hDd : Deeds Hd (.slice (some ⟨Hc.n, 0, none⟩) 2 0) [e, d] := new_deeds hsd
      have kd1 := new_keep hsd
      have ld := kd1.1
      refine (run_spec (by omega) (hGc.keep kd1) hVT hDd (fun i hi => by
        match i, hi with
        | 0, _ => exact ke
        | 1, _ => exact kd) (by show 2 ≤ 200; decide)).mono ?_
      rintro r He ⟨⟨A2, v2, ev2, rfl, hg2, he2⟩, ke1⟩
      have le := ke1.1
      rw [two_E ke kd] at he2
      repeat' first
        | refine CO.cons rfl ?_
        | refine CO.nil ?_
        | refine CV.seq ?_
        | refine CV.region callees ?_
        | refine CV.cond ?_
        | refine CV.block ?_
        | refine CV.skip ?_
        | refine CV.exit ?_
        | refine CV.ret ?_
        | refine CV.scope ?_
        | refine CV.draw callees rfl ?_
        | refine CH.cons rfl ?_
        | refine CH.nil ?_
        | refine CO.consG rfl ?_
        | refine CH.consG rfl ?_
        | refine CG.cons rfl ?_
        | refine CR.cons ?_
        | refine CR.nil ?_
        | refine CG.nil ?_
        | refine CG.consG rfl ?_
        | refine ⟨(rfl : plain _ = true), ?_⟩
        | refine ⟨(rfl : nilOk _ = some _), ?_⟩
        | refine ⟨_, ints_len (by assumption), ?_⟩
        | refine ⟨_, ints_addr (by assumption) (by omega) (by omega), ?_⟩
        | refine ⟨_, ints_load (by assumption) (by omega) (by omega), ?_⟩
        | refine ⟨(⟨by omega, by omega⟩ : inI64 _), ?_⟩
        | refine ⟨_, fun tm ha => step1_max rfl (ev_tmp ha rfl) (ev_tmp ha rfl), ?_⟩
        | refine ⟨_, fun tm ha => step1_min rfl (ev_tmp ha rfl) (ev_tmp ha rfl), ?_⟩
        | (refine ⟨_, _, allocT, ?_⟩)
        | (refine ⟨fun _ => ?_, fun _ => ?_⟩ <;> first | (exfalso; omega) | skip)
        | fail
      generalize hse : He.new (Tc T0 (.slice none 0 0)) = Hf
      have hgf := new_get hse
      have kf := new_keep hse
      have nf := new_n hse
      obtain ⟨by', hby⟩ : ∃ by', He.n = by' := ⟨_, rfl⟩
      rw [hby] at hgf nf ⊢
      refine ⟨_, _, storeT (t' := runT T [e, d]) hg2.oneC.1 hgf, by omega, ?_⟩
      generalize hsg : Hf.set by' _ = Hg
      have hgg := set_get hsg
      have ng := set_n hsg
      have kg : Keep He Hg := keep_put kf (by omega) (set_old hsg) ng
      have kcg := (kd1.trans ke1).trans kg
      have hg1g := hg1c.keep kcg
      have he1g := he1c.keep kcg
      have hg2g := hg2.keep kg
      have he2g := he2.keep kg
      have hgcg : Hg.get bx = some (Tc (runT T [d, e]) A1) := by rw [kcg.2 bx (by omega)]; exact hgc
      have hgtg : Hg.get bt = some (Tc T A) := by rw [kcg.2 bt (by omega)]; exact hgtc
      have hDg : Deeds Hg ds [d, e] := RowS.keep hDc kcg
      have hGg := hGc.keep kcg
      have lg := kcg.1
      obtain ⟨sl, hsl, hDs⟩ := RowS.slice_one hDg un56 szD
      repeat' first
        | refine CO.cons rfl ?_
        | refine CO.nil ?_
        | refine CV.seq ?_
        | refine CV.region callees ?_
        | refine CV.cond ?_
        | refine CV.block ?_
        | refine CV.skip ?_
        | refine CV.exit ?_
        | refine CV.ret ?_
        | refine CV.scope ?_
        | refine CV.draw callees rfl ?_
        | refine CH.cons rfl ?_
        | refine CH.nil ?_
        | refine CO.consG rfl ?_
        | refine CH.consG rfl ?_
        | refine CG.cons rfl ?_
        | refine CR.cons ?_
        | refine CR.nil ?_
        | refine CG.nil ?_
        | refine CG.consG rfl ?_
        | refine ⟨(rfl : plain _ = true), ?_⟩
        | refine ⟨(rfl : nilOk _ = some _), ?_⟩
        | refine ⟨_, ints_len (by assumption), ?_⟩
        | refine ⟨_, ints_addr (by assumption) (by omega) (by omega), ?_⟩
        | refine ⟨_, ints_load (by assumption) (by omega) (by omega), ?_⟩
        | refine ⟨(⟨by omega, by omega⟩ : inI64 _), ?_⟩
        | refine ⟨_, fun tm ha => step1_max rfl (ev_tmp ha rfl) (ev_tmp ha rfl), ?_⟩
        | refine ⟨_, fun tm ha => step1_min rfl (ev_tmp ha rfl) (ev_tmp ha rfl), ?_⟩
        | refine CV.al callees rfl 8 [(0, []), (1, []), (2, []), (3, []), (4, []), (5, []), (6, []), (7, []), (8, []), (9, []), (10, []), (11, [])] (by kernel_rfl) rfl allocT ?_
        | (refine ⟨_, loadT hgtg, ?_⟩)
        | (refine ⟨_, hsl, ?_⟩)
        | (refine ⟨fun _ => ?_, fun _ => ?_⟩ <;> first | (exfalso; omega) | skip)
        | fail
      refine (run_spec (by omega) hGg hVT (ds := [e]) hDs (fun i hi => by
        match i, hi with
        | 0, _ => exact ke) (by show 1 ≤ 200; decide)).mono ?_
      rintro r Hh ⟨⟨A3, v3, ev3, rfl, hg3, he3⟩, kh⟩
      have lh := kh.1
      repeat' first
        | refine CO.cons rfl ?_
        | refine CO.nil ?_
        | refine CV.seq ?_
        | refine CV.region callees ?_
        | refine CV.cond ?_
        | refine CV.block ?_
        | refine CV.skip ?_
        | refine CV.exit ?_
        | refine CV.ret ?_
        | refine CV.scope ?_
        | refine CV.draw callees rfl ?_
        | refine CH.cons rfl ?_
        | refine CH.nil ?_
        | refine CO.consG rfl ?_
        | refine CH.consG rfl ?_
        | refine CG.cons rfl ?_
        | refine CR.cons ?_
        | refine CR.nil ?_
        | refine CG.nil ?_
        | refine CG.consG rfl ?_
        | refine ⟨(rfl : plain _ = true), ?_⟩
        | refine ⟨(rfl : nilOk _ = some _), ?_⟩
        | refine ⟨_, ints_len (by assumption), ?_⟩
        | refine ⟨_, ints_addr (by assumption) (by omega) (by omega), ?_⟩
        | refine ⟨_, ints_load (by assumption) (by omega) (by omega), ?_⟩
        | refine ⟨(⟨by omega, by omega⟩ : inI64 _), ?_⟩
        | refine ⟨_, fun tm ha => step1_max rfl (ev_tmp ha rfl) (ev_tmp ha rfl), ?_⟩
        | refine ⟨_, fun tm ha => step1_min rfl (ev_tmp ha rfl) (ev_tmp ha rfl), ?_⟩
        | (refine ⟨_, _, allocT, ?_⟩)
        | (refine ⟨fun _ => ?_, fun _ => ?_⟩ <;> first | (exfalso; omega) | skip)
        | fail
      generalize hsh : Hh.new (Tc T0 (.slice none 0 0)) = Hi
      have hgi := new_get hsh
      have ki := new_keep hsh
      have ni := new_n hsh
      obtain ⟨bz, hbz⟩ : ∃ bz, Hh.n = bz := ⟨_, rfl⟩
      rw [hbz] at hgi ni ⊢
      refine ⟨_, _, storeT (t' := runT T [e]) hg3.oneC.1 hgi, by omega, ?_⟩
      generalize hsj : Hi.set bz _ = Hj
      have hgj := set_get hsj
      have nj := set_n hsj
      have kj : Keep Hh Hj := keep_put ki (by omega) (set_old hsj) nj
      have kgj := kh.trans kj
      have hg1j := hg1g.keep kgj
      have he1j := he1g.keep kgj
      have hg2j := hg2g.keep kgj
      have he2j := he2g.keep kgj
      have hg3j := hg3.keep kj
      have hgxj : Hj.get bx = some (Tc (runT T [d, e]) A1) := by rw [kgj.2 bx (by omega)]; exact hgcg
      have hgyj : Hj.get by' = some (Tc (runT T [e, d]) A2) := by rw [kgj.2 by' (by omega)]; exact hgg
      have hDj : Deeds Hj ds [d, e] := RowS.keep hDg kgj
      obtain ⟨n1, a10, a11, l10, l11⟩ := errs_at he1j
      obtain ⟨n2, a20, a21, l20, l21⟩ := errs_at he2j
      have lj := kgj.1
      have hBj : H.n ≤ Hj.n := by omega
      have hgzj : Hj.get bz = some (Tc (runT T [e]) A3) := hgj
      by_cases hgs : d.gs = e.gs
      · by_cases hpc : d.pc = e.pc
        · have hE : runT T [d, e] = runT T [e] := write_twice kd ke hgs hpc qd qe
          rw [hE] at hgxj hg1j
          repeat' first
            | refine CO.cons rfl ?_
            | refine CO.nil ?_
            | refine CV.seq ?_
            | refine CV.region callees ?_
            | refine CV.cond ?_
            | refine CV.block ?_
            | refine CV.skip ?_
            | refine CV.exit ?_
            | refine CV.ret ?_
            | refine CV.scope ?_
            | refine CV.draw callees rfl ?_
            | refine CH.cons rfl ?_
            | refine CH.nil ?_
            | refine CO.consG rfl ?_
            | refine CH.consG rfl ?_
            | refine CG.cons rfl ?_
            | refine CR.cons ?_
            | refine CR.nil ?_
            | refine CG.nil ?_
            | refine CG.consG rfl ?_
            | refine ⟨(rfl : plain _ = true), ?_⟩
            | refine ⟨(rfl : nilOk _ = some _), ?_⟩
            | refine ⟨_, ints_len (by assumption), ?_⟩
            | refine ⟨_, ints_addr (by assumption) (by omega) (by omega), ?_⟩
            | refine ⟨_, ints_load (by assumption) (by omega) (by omega), ?_⟩
            | refine ⟨(⟨by omega, by omega⟩ : inI64 _), ?_⟩
            | refine ⟨_, fun tm ha => step1_max rfl (ev_tmp ha rfl) (ev_tmp ha rfl), ?_⟩
            | refine ⟨_, fun tm ha => step1_min rfl (ev_tmp ha rfl) (ev_tmp ha rfl), ?_⟩
            | (refine ⟨_, n1, ?_⟩)
            | (refine ⟨_, n2, ?_⟩)
            | (refine ⟨_, a10, ?_⟩)
            | (refine ⟨_, a11, ?_⟩)
            | (refine ⟨_, a20, ?_⟩)
            | (refine ⟨_, a21, ?_⟩)
            | (refine ⟨_, l10, ?_⟩)
            | (refine ⟨_, l11, ?_⟩)
            | (refine ⟨_, l20, ?_⟩)
            | (refine ⟨_, l21, ?_⟩)
            | (refine ⟨_, d2_addr0 hDj, ?_⟩)
            | (refine ⟨_, d2_addr1 hDj, ?_⟩)
            | (refine ⟨_, d2_field hDj (by decide) (by decide), ?_⟩)
            | (refine ⟨_, d2_g0 hDj, ?_⟩)
            | (refine ⟨_, d2_g1 hDj, ?_⟩)
            | (refine ⟨_, d2_p0 hDj, ?_⟩)
            | (refine ⟨_, d2_p1 hDj, ?_⟩)
            | (refine ⟨_, loadT hgxj, ?_⟩)
            | (refine ⟨_, loadT hgzj, ?_⟩)
            | (refine ⟨fun _ => ?_, fun _ => ?_⟩ <;> first | (exfalso; omega) | skip)
            | fail
          refine (eqTables_spec (t := runT T [e]) (by omega) hg1j hg3j (Vt.run _ hVT)).mono ?_
          rintro r Hk ⟨rfl, kk⟩
          have lk := kk.1
          repeat' first
            | refine CO.cons rfl ?_
            | refine CO.nil ?_
            | refine CV.seq ?_
            | refine CV.region callees ?_
            | refine CV.cond ?_
            | refine CV.block ?_
            | refine CV.skip ?_
            | refine CV.exit ?_
            | refine CV.ret ?_
            | refine CV.scope ?_
            | refine CV.draw callees rfl ?_
            | refine CH.cons rfl ?_
            | refine CH.nil ?_
            | refine CO.consG rfl ?_
            | refine CH.consG rfl ?_
            | refine CG.cons rfl ?_
            | refine CR.cons ?_
            | refine CR.nil ?_
            | refine CG.nil ?_
            | refine CG.consG rfl ?_
            | refine ⟨(rfl : plain _ = true), ?_⟩
            | refine ⟨(rfl : nilOk _ = some _), ?_⟩
            | refine ⟨_, ints_len (by assumption), ?_⟩
            | refine ⟨_, ints_addr (by assumption) (by omega) (by omega), ?_⟩
            | refine ⟨_, ints_load (by assumption) (by omega) (by omega), ?_⟩
            | refine ⟨(⟨by omega, by omega⟩ : inI64 _), ?_⟩
            | refine ⟨_, fun tm ha => step1_max rfl (ev_tmp ha rfl) (ev_tmp ha rfl), ?_⟩
            | refine ⟨_, fun tm ha => step1_min rfl (ev_tmp ha rfl) (ev_tmp ha rfl), ?_⟩
            | refine CallB.known rfl (base_any _) (by omega) ?_
            | (refine ⟨fun _ => ?_, fun _ => ?_⟩ <;> first | (exfalso; omega) | skip)
            | fail
          exact ⟨rfl, rfl⟩
        · have hE : runT T [d, e] = runT T [e, d] := write_comm kd ke ⟨od, pd⟩ ⟨oe, pe⟩ (.inr hpc)
          rw [hE] at hgxj hg1j
          repeat' first
            | refine CO.cons rfl ?_
            | refine CO.nil ?_
            | refine CV.seq ?_
            | refine CV.region callees ?_
            | refine CV.cond ?_
            | refine CV.block ?_
            | refine CV.skip ?_
            | refine CV.exit ?_
            | refine CV.ret ?_
            | refine CV.scope ?_
            | refine CV.draw callees rfl ?_
            | refine CH.cons rfl ?_
            | refine CH.nil ?_
            | refine CO.consG rfl ?_
            | refine CH.consG rfl ?_
            | refine CG.cons rfl ?_
            | refine CR.cons ?_
            | refine CR.nil ?_
            | refine CG.nil ?_
            | refine CG.consG rfl ?_
            | refine ⟨(rfl : plain _ = true), ?_⟩
            | refine ⟨(rfl : nilOk _ = some _), ?_⟩
            | refine ⟨_, ints_len (by assumption), ?_⟩
            | refine ⟨_, ints_addr (by assumption) (by omega) (by omega), ?_⟩
            | refine ⟨_, ints_load (by assumption) (by omega) (by omega), ?_⟩
            | refine ⟨(⟨by omega, by omega⟩ : inI64 _), ?_⟩
            | refine ⟨_, fun tm ha => step1_max rfl (ev_tmp ha rfl) (ev_tmp ha rfl), ?_⟩
            | refine ⟨_, fun tm ha => step1_min rfl (ev_tmp ha rfl) (ev_tmp ha rfl), ?_⟩
            | (refine ⟨_, n1, ?_⟩)
            | (refine ⟨_, n2, ?_⟩)
            | (refine ⟨_, a10, ?_⟩)
            | (refine ⟨_, a11, ?_⟩)
            | (refine ⟨_, a20, ?_⟩)
            | (refine ⟨_, a21, ?_⟩)
            | (refine ⟨_, l10, ?_⟩)
            | (refine ⟨_, l11, ?_⟩)
            | (refine ⟨_, l20, ?_⟩)
            | (refine ⟨_, l21, ?_⟩)
            | (refine ⟨_, d2_addr0 hDj, ?_⟩)
            | (refine ⟨_, d2_addr1 hDj, ?_⟩)
            | (refine ⟨_, d2_field hDj (by decide) (by decide), ?_⟩)
            | (refine ⟨_, d2_g0 hDj, ?_⟩)
            | (refine ⟨_, d2_g1 hDj, ?_⟩)
            | (refine ⟨_, d2_p0 hDj, ?_⟩)
            | (refine ⟨_, d2_p1 hDj, ?_⟩)
            | (refine ⟨_, loadT hgxj, ?_⟩)
            | (refine ⟨_, loadT hgyj, ?_⟩)
            | (refine ⟨fun _ => ?_, fun _ => ?_⟩ <;> first | (exfalso; omega) | skip)
            | fail
          refine (eqTables_spec (t := runT T [e, d]) (by omega) hg1j hg2j (Vt.run _ hVT)).mono ?_
          rintro r Hk ⟨rfl, kk⟩
          have lk := kk.1
          repeat' first
            | refine CO.cons rfl ?_
            | refine CO.nil ?_
            | refine CV.seq ?_
            | refine CV.region callees ?_
            | refine CV.cond ?_
            | refine CV.block ?_
            | refine CV.skip ?_
            | refine CV.exit ?_
            | refine CV.ret ?_
            | refine CV.scope ?_
            | refine CV.draw callees rfl ?_
            | refine CH.cons rfl ?_
            | refine CH.nil ?_
            | refine CO.consG rfl ?_
            | refine CH.consG rfl ?_
            | refine CG.cons rfl ?_
            | refine CR.cons ?_
            | refine CR.nil ?_
            | refine CG.nil ?_
            | refine CG.consG rfl ?_
            | refine ⟨(rfl : plain _ = true), ?_⟩
            | refine ⟨(rfl : nilOk _ = some _), ?_⟩
            | refine ⟨_, ints_len (by assumption), ?_⟩
            | refine ⟨_, ints_addr (by assumption) (by omega) (by omega), ?_⟩
            | refine ⟨_, ints_load (by assumption) (by omega) (by omega), ?_⟩
            | refine ⟨(⟨by omega, by omega⟩ : inI64 _), ?_⟩
            | refine ⟨_, fun tm ha => step1_max rfl (ev_tmp ha rfl) (ev_tmp ha rfl), ?_⟩
            | refine ⟨_, fun tm ha => step1_min rfl (ev_tmp ha rfl) (ev_tmp ha rfl), ?_⟩
            | refine CallB.known rfl (base_any _) (by omega) ?_
            | (refine ⟨fun _ => ?_, fun _ => ?_⟩ <;> first | (exfalso; omega) | skip)
            | fail
          exact ⟨rfl, rfl⟩
      · have hE : runT T [d, e] = runT T [e, d] := write_comm kd ke ⟨od, pd⟩ ⟨oe, pe⟩ (.inl hgs)
        rw [hE] at hgxj hg1j
        repeat' first
          | refine CO.cons rfl ?_
          | refine CO.nil ?_
          | refine CV.seq ?_
          | refine CV.region callees ?_
          | refine CV.cond ?_
          | refine CV.block ?_
          | refine CV.skip ?_
          | refine CV.exit ?_
          | refine CV.ret ?_
          | refine CV.scope ?_
          | refine CV.draw callees rfl ?_
          | refine CH.cons rfl ?_
          | refine CH.nil ?_
          | refine CO.consG rfl ?_
          | refine CH.consG rfl ?_
          | refine CG.cons rfl ?_
          | refine CR.cons ?_
          | refine CR.nil ?_
          | refine CG.nil ?_
          | refine CG.consG rfl ?_
          | refine ⟨(rfl : plain _ = true), ?_⟩
          | refine ⟨(rfl : nilOk _ = some _), ?_⟩
          | refine ⟨_, ints_len (by assumption), ?_⟩
          | refine ⟨_, ints_addr (by assumption) (by omega) (by omega), ?_⟩
          | refine ⟨_, ints_load (by assumption) (by omega) (by omega), ?_⟩
          | refine ⟨(⟨by omega, by omega⟩ : inI64 _), ?_⟩
          | refine ⟨_, fun tm ha => step1_max rfl (ev_tmp ha rfl) (ev_tmp ha rfl), ?_⟩
          | refine ⟨_, fun tm ha => step1_min rfl (ev_tmp ha rfl) (ev_tmp ha rfl), ?_⟩
          | (refine ⟨_, n1, ?_⟩)
          | (refine ⟨_, n2, ?_⟩)
          | (refine ⟨_, a10, ?_⟩)
          | (refine ⟨_, a11, ?_⟩)
          | (refine ⟨_, a20, ?_⟩)
          | (refine ⟨_, a21, ?_⟩)
          | (refine ⟨_, l10, ?_⟩)
          | (refine ⟨_, l11, ?_⟩)
          | (refine ⟨_, l20, ?_⟩)
          | (refine ⟨_, l21, ?_⟩)
          | (refine ⟨_, d2_addr0 hDj, ?_⟩)
          | (refine ⟨_, d2_addr1 hDj, ?_⟩)
          | (refine ⟨_, d2_field hDj (by decide) (by decide), ?_⟩)
          | (refine ⟨_, d2_g0 hDj, ?_⟩)
          | (refine ⟨_, d2_g1 hDj, ?_⟩)
          | (refine ⟨_, d2_p0 hDj, ?_⟩)
          | (refine ⟨_, d2_p1 hDj, ?_⟩)
          | (refine ⟨_, loadT hgxj, ?_⟩)
          | (refine ⟨_, loadT hgyj, ?_⟩)
          | (refine ⟨fun _ => ?_, fun _ => ?_⟩ <;> first | (exfalso; omega) | skip)
          | fail
        refine (eqTables_spec (t := runT T [e, d]) (by omega) hg1j hg2j (Vt.run _ hVT)).mono ?_
        rintro r Hk ⟨rfl, kk⟩
        have lk := kk.1
        repeat' first
          | refine CO.cons rfl ?_
          | refine CO.nil ?_
          | refine CV.seq ?_
          | refine CV.region callees ?_
          | refine CV.cond ?_
          | refine CV.block ?_
          | refine CV.skip ?_
          | refine CV.exit ?_
          | refine CV.ret ?_
          | refine CV.scope ?_
          | refine CV.draw callees rfl ?_
          | refine CH.cons rfl ?_
          | refine CH.nil ?_
          | refine CO.consG rfl ?_
          | refine CH.consG rfl ?_
          | refine CG.cons rfl ?_
          | refine CR.cons ?_
          | refine CR.nil ?_
          | refine CG.nil ?_
          | refine CG.consG rfl ?_
          | refine ⟨(rfl : plain _ = true), ?_⟩
          | refine ⟨(rfl : nilOk _ = some _), ?_⟩
          | refine ⟨_, ints_len (by assumption), ?_⟩
          | refine ⟨_, ints_addr (by assumption) (by omega) (by omega), ?_⟩
          | refine ⟨_, ints_load (by assumption) (by omega) (by omega), ?_⟩
          | refine ⟨(⟨by omega, by omega⟩ : inI64 _), ?_⟩
          | refine ⟨_, fun tm ha => step1_max rfl (ev_tmp ha rfl) (ev_tmp ha rfl), ?_⟩
          | refine ⟨_, fun tm ha => step1_min rfl (ev_tmp ha rfl) (ev_tmp ha rfl), ?_⟩
          | refine CallB.known rfl (base_any _) (by omega) ?_
          | (refine ⟨fun _ => ?_, fun _ => ?_⟩ <;> first | (exfalso; omega) | skip)
          | fail
        exact ⟨rfl, rfl⟩
end Go.Proofs.Ytcpklnekpdhlmaa
