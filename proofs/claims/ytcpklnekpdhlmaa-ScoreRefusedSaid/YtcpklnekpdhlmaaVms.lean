/- ScoreRefused: its function answers true. -/
import Derived.Test.YtcpklnekpdhlmaaVls
set_option linter.unusedVariables false
set_option linter.unusedSimpArgs false
namespace Go.Proofs.Ytcpklnekpdhlmaa
open Go.AI
set_option linter.unusedVariables false
set_option linter.unusedSimpArgs false
theorem errs_len {H : Heap} {v : Value} {es : List Int} {B : Nat} (h : Own 37 H v (es.map VI) B) : alen Try.prog H 65 v = some (.int .i64 es.length) := by
  have := Row.alen h.row un65
  rwa [List.length_map] at this
theorem errs_addr {H : Heap} {v : Value} {es : List Int} {B : Nat} (h : Own 37 H v (es.map VI) B) {j : Int} (h0 : 0 ≤ j) (h1 : j < es.length) : aindexAddr Try.prog 65 v (.int .i64 j) = some (elemAt v j.toNat) :=
  Row.addr h.row un65 sz37 h0 (by rw [List.length_map]; exact h1)
theorem errs_load {H : Heap} {v : Value} {es : List Int} {B : Nat} (h : Own 37 H v (es.map VI) B) {j : Int} (h0 : 0 ≤ j) (h1 : j < es.length) : aload Try.prog 37 H (elemAt v j.toNat) = some (VI es[j.toNat]!) :=
  Row.load h.row ag37 (by rw [List.getElem?_map, List.getElem?_eq_getElem (by omega), getElem!_pos es j.toNat (by omega)]; rfl)
theorem take_snoc {ds : List Dd} {i : Nat} (h : i < ds.length) : ds.take (i + 1) = ds.take i ++ [ds[i]!] := by
  rw [List.take_add_one, List.getElem?_eq_getElem h, getElem!_pos ds i h]; rfl
theorem runE_at : ∀ (ds : List Dd) (t : Tb) (i : Nat), i < ds.length → (runE t ds)[i]! = doE (runT t (ds.take i)) ds[i]!
  | d :: ds, t, 0, _ => rfl
  | d :: ds, t, i + 1, h => by
    have h' : i < ds.length := by simpa using h
    have := runE_at ds (doT t d) i h'
    rw [getElem!_pos _ _ (by rw [runE_len]; exact h')] at this
    rw [getElem!_pos (d :: ds) (i + 1) h, List.getElem_cons_succ, ← getElem!_pos ds i h']
    rw [getElem!_pos (runE t (d :: ds)) (i + 1) (by rw [runE_len]; exact h)]
    exact this
theorem right_take {ds : List Dd} {t : Tb} {i : Nat} (h : i < ds.length) : right t (ds.take (i + 1)) = right t (ds.take i) ++ if (runE t ds)[i]! = 0 then [ds[i]!] else [] := by
  rw [take_snoc h, right_snoc, runE_at ds t i h]
theorem right_len : ∀ (ds : List Dd) (t : Tb), (right t ds).length ≤ ds.length
  | [], _ => Nat.le_refl _
  | d :: ds, t => by
    rw [right]; split
    · have := right_len ds (doT t d); simp; omega
    · have := right_len ds (doT t d); simp; omega
set_option maxHeartbeats 8000000 in
set_option maxRecDepth 100000 in
theorem scoreRefused_spec {v : Value} {H : Heap} {xs : List Int} (hBase : Base H) (hv : Ints H v xs) (hx : xs.length ≤ 9223372036854775807) (_ : ∀ x ∈ xs, inI64 x) :
    CallB Try.prog H.n 6 [v] H (fun r _ => r = .bool true) := by
  have hn : H.n ≤ H.n := Nat.le_refl _
  refine CV.enter callees false rfl Try.func6 rfl (by kernel_rfl) (Nat.le_of_ble_eq_true rfl) hn ?_
  repeat' first
    | refine CO.cons rfl ?_
    | refine CO.nil ?_
    | refine CV.seq ?_
    | refine CV.region callees ?_
    | refine CV.cond ?_
    | refine CV.block ?_
    | refine CV.skip ?_
    | refine CV.exit ?_
    | refine CV.ret ?_
    | refine CV.scope ?_
    | refine CV.draw callees rfl ?_
    | refine CH.cons rfl ?_
    | refine CH.nil ?_
    | refine CO.consG rfl ?_
    | refine CH.consG rfl ?_
    | refine CG.cons rfl ?_
    | refine CR.cons ?_
    | refine CR.nil ?_
    | refine CG.nil ?_
    | refine CG.consG rfl ?_
    | refine ⟨(rfl : plain _ = true), ?_⟩
    | refine ⟨(rfl : nilOk _ = some _), ?_⟩
    | refine ⟨_, ints_len (by assumption), ?_⟩
    | refine ⟨_, ints_addr (by assumption) (by omega) (by omega), ?_⟩
    | refine ⟨_, ints_load (by assumption) (by omega) (by omega), ?_⟩
    | refine ⟨(⟨by omega, by omega⟩ : inI64 _), ?_⟩
    | refine ⟨_, fun tm ha => step1_max rfl (ev_tmp ha rfl) (ev_tmp ha rfl), ?_⟩
    | refine ⟨_, fun tm ha => step1_min rfl (ev_tmp ha rfl) (ev_tmp ha rfl), ?_⟩
    | (refine ⟨fun _ => ?_, fun _ => ?_⟩ <;> first | (exfalso; omega) | skip)
    | fail
  refine (boxOf_spec hn hv hx).mono ?_
  rintro r H1 ⟨⟨b, rfl, hb, hbox⟩, k1⟩
  have l1 := k1.1
  repeat' first
    | refine CO.cons rfl ?_
    | refine CO.nil ?_
    | refine CV.seq ?_
    | refine CV.region callees ?_
    | refine CV.cond ?_
    | refine CV.block ?_
    | refine CV.skip ?_
    | refine CV.exit ?_
    | refine CV.ret ?_
    | refine CV.scope ?_
    | refine CV.draw callees rfl ?_
    | refine CH.cons rfl ?_
    | refine CH.nil ?_
    | refine CO.consG rfl ?_
    | refine CH.consG rfl ?_
    | refine CG.cons rfl ?_
    | refine CR.cons ?_
    | refine CR.nil ?_
    | refine CG.nil ?_
    | refine CG.consG rfl ?_
    | refine ⟨(rfl : plain _ = true), ?_⟩
    | refine ⟨(rfl : nilOk _ = some _), ?_⟩
    | refine ⟨_, ints_len (by assumption), ?_⟩
    | refine ⟨_, ints_addr (by assumption) (by omega) (by omega), ?_⟩
    | refine ⟨_, ints_load (by assumption) (by omega) (by omega), ?_⟩
    | refine ⟨(⟨by omega, by omega⟩ : inI64 _), ?_⟩
    | refine ⟨_, fun tm ha => step1_max rfl (ev_tmp ha rfl) (ev_tmp ha rfl), ?_⟩
    | refine ⟨_, fun tm ha => step1_min rfl (ev_tmp ha rfl) (ev_tmp ha rfl), ?_⟩
    | (refine ⟨fun _ => ?_, fun _ => ?_⟩ <;> first | (exfalso; omega) | skip)
    | fail
  refine (tableOf_spec (B := H.n) hb l1 hbox (by omega) (by omega) (by omega) (by omega)).mono ?_
  rintro r H2a ⟨⟨T, A, vals, rfl, hVT, hG⟩, hb2a, x2a⟩
  have l2a := x2a.1
  have hb2an := hb2a.1
  repeat' first
    | refine CO.cons rfl ?_
    | refine CO.nil ?_
    | refine CV.seq ?_
    | refine CV.region callees ?_
    | refine CV.cond ?_
    | refine CV.block ?_
    | refine CV.skip ?_
    | refine CV.exit ?_
    | refine CV.ret ?_
    | refine CV.scope ?_
    | refine CV.draw callees rfl ?_
    | refine CH.cons rfl ?_
    | refine CH.nil ?_
    | refine CO.consG rfl ?_
    | refine CH.consG rfl ?_
    | refine CG.cons rfl ?_
    | refine CR.cons ?_
    | refine CR.nil ?_
    | refine CG.nil ?_
    | refine CG.consG rfl ?_
    | refine ⟨(rfl : plain _ = true), ?_⟩
    | refine ⟨(rfl : nilOk _ = some _), ?_⟩
    | refine ⟨_, ints_len (by assumption), ?_⟩
    | refine ⟨_, ints_addr (by assumption) (by omega) (by omega), ?_⟩
    | refine ⟨_, ints_load (by assumption) (by omega) (by omega), ?_⟩
    | refine ⟨(⟨by omega, by omega⟩ : inI64 _), ?_⟩
    | refine ⟨_, fun tm ha => step1_max rfl (ev_tmp ha rfl) (ev_tmp ha rfl), ?_⟩
    | refine ⟨_, fun tm ha => step1_min rfl (ev_tmp ha rfl) (ev_tmp ha rfl), ?_⟩
    | (refine ⟨_, _, allocT, ?_⟩)
    | (refine ⟨fun _ => ?_, fun _ => ?_⟩ <;> first | (exfalso; omega) | skip)
    | fail
  generalize hs0 : H2a.new (Tc T0 (.slice none 0 0)) = H2b
  have hg0 := new_get hs0
  have k0 := new_keep hs0
  have n0 := new_n hs0
  obtain ⟨bt, hbt⟩ : ∃ bt, H2a.n = bt := ⟨_, rfl⟩
  rw [hbt] at hg0 n0 ⊢
  refine ⟨_, _, storeT (t' := T) hG.own.row.oneC.1 hg0, by omega, ?_⟩
  generalize hs1 : H2b.set bt _ = H2
  have hgt : H2.get bt = some (Tc T A) := set_get hs1
  have n2 := set_n hs1
  have k2 : Keep H2a H2 := keep_put k0 (by omega) (set_old hs1) n2
  have hG2 := hG.keep k2
  have hb2 : Box b H2 := hb2a.keep k2
  have p9 := hVT.pk9
  have p1 := hVT.pk0
  have r1 := hVT.len0
  have r2 := hVT.len9
  repeat' first
    | refine CO.cons rfl ?_
    | refine CO.nil ?_
    | refine CV.seq ?_
    | refine CV.region callees ?_
    | refine CV.cond ?_
    | refine CV.block ?_
    | refine CV.skip ?_
    | refine CV.exit ?_
    | refine CV.ret ?_
    | refine CV.scope ?_
    | refine CV.draw callees rfl ?_
    | refine CH.cons rfl ?_
    | refine CH.nil ?_
    | refine CO.consG rfl ?_
    | refine CH.consG rfl ?_
    | refine CG.cons rfl ?_
    | refine CR.cons ?_
    | refine CR.nil ?_
    | refine CG.nil ?_
    | refine CG.consG rfl ?_
    | refine ⟨(rfl : plain _ = true), ?_⟩
    | refine ⟨(rfl : nilOk _ = some _), ?_⟩
    | refine ⟨_, ints_len (by assumption), ?_⟩
    | refine ⟨_, ints_addr (by assumption) (by omega) (by omega), ?_⟩
    | refine ⟨_, ints_load (by assumption) (by omega) (by omega), ?_⟩
    | refine ⟨(⟨by omega, by omega⟩ : inI64 _), ?_⟩
    | refine ⟨_, fun tm ha => step1_max rfl (ev_tmp ha rfl) (ev_tmp ha rfl), ?_⟩
    | refine ⟨_, fun tm ha => step1_min rfl (ev_tmp ha rfl) (ev_tmp ha rfl), ?_⟩
    | (refine ⟨_, loadT hgt, ?_⟩)
    | (refine ⟨fun _ => ?_, fun _ => ?_⟩ <;> first | (exfalso; omega) | skip)
    | fail
  refine (deedsOf_spec (B := H.n) hb (by omega) hb2 hVT hG2 (by omega) (by omega)).mono ?_
  rintro dv H3 ⟨⟨ds, hlen, hds⟩, hb3, x3⟩
  have l3 := x3.1
  have hgt3 : H3.get bt = some (Tc T A) := by rw [x3.2 bt (by omega) (by omega)]; exact hgt
  have hG3 : Grid H3 A vals T.rs := (hG2.box x3 hb2).grid
  have hD3 : Deeds H3 dv ds := hds.row
  repeat' first
    | refine CO.cons rfl ?_
    | refine CO.nil ?_
    | refine CV.seq ?_
    | refine CV.region callees ?_
    | refine CV.cond ?_
    | refine CV.block ?_
    | refine CV.skip ?_
    | refine CV.exit ?_
    | refine CV.ret ?_
    | refine CV.scope ?_
    | refine CV.draw callees rfl ?_
    | refine CH.cons rfl ?_
    | refine CH.nil ?_
    | refine CO.consG rfl ?_
    | refine CH.consG rfl ?_
    | refine CG.cons rfl ?_
    | refine CR.cons ?_
    | refine CR.nil ?_
    | refine CG.nil ?_
    | refine CG.consG rfl ?_
    | refine ⟨(rfl : plain _ = true), ?_⟩
    | refine ⟨(rfl : nilOk _ = some _), ?_⟩
    | refine ⟨_, ints_len (by assumption), ?_⟩
    | refine ⟨_, ints_addr (by assumption) (by omega) (by omega), ?_⟩
    | refine ⟨_, ints_load (by assumption) (by omega) (by omega), ?_⟩
    | refine ⟨(⟨by omega, by omega⟩ : inI64 _), ?_⟩
    | refine ⟨_, fun tm ha => step1_max rfl (ev_tmp ha rfl) (ev_tmp ha rfl), ?_⟩
    | refine ⟨_, fun tm ha => step1_min rfl (ev_tmp ha rfl) (ev_tmp ha rfl), ?_⟩
    | (refine ⟨_, loadT hgt3, ?_⟩)
    | (refine ⟨fun _ => ?_, fun _ => ?_⟩ <;> first | (exfalso; omega) | skip)
    | fail
  refine (runAny_spec (by omega) hG3 hVT hD3 (by omega)).mono ?_
  rintro r Ha ⟨⟨A1, v1, ev1, rfl, hg1, he1⟩, ka⟩
  have la := ka.1
  have hVW := Vt.run ds hVT
  obtain ⟨s1, s2, s3⟩ := runT_same ds T
  have hrl := runE_len ds T
  have hright := right_run ds T
  have hok := right_ok ds T
  have hrr := right_len ds T
  have hrl2 := runE_len (right T ds) T
  have htake := fun i (h : i < ds.length) => right_take (t := T) h
  have hfull : ds.take ds.length = ds := List.take_length
  generalize hW : runT T ds = W at hg1 hVW s1 s2 s3 hright ⊢
  generalize hE : runE T ds = es at he1 hrl htake
  repeat' first
    | refine CO.cons rfl ?_
    | refine CO.nil ?_
    | refine CV.seq ?_
    | refine CV.region callees ?_
    | refine CV.cond ?_
    | refine CV.block ?_
    | refine CV.skip ?_
    | refine CV.exit ?_
    | refine CV.ret ?_
    | refine CV.scope ?_
    | refine CV.draw callees rfl ?_
    | refine CH.cons rfl ?_
    | refine CH.nil ?_
    | refine CO.consG rfl ?_
    | refine CH.consG rfl ?_
    | refine CG.cons rfl ?_
    | refine CR.cons ?_
    | refine CR.nil ?_
    | refine CG.nil ?_
    | refine CG.consG rfl ?_
    | refine ⟨(rfl : plain _ = true), ?_⟩
    | refine ⟨(rfl : nilOk _ = some _), ?_⟩
    | refine ⟨_, ints_len (by assumption), ?_⟩
    | refine ⟨_, ints_addr (by assumption) (by omega) (by omega), ?_⟩
    | refine ⟨_, ints_load (by assumption) (by omega) (by omega), ?_⟩
    | refine ⟨(⟨by omega, by omega⟩ : inI64 _), ?_⟩
    | refine ⟨_, fun tm ha => step1_max rfl (ev_tmp ha rfl) (ev_tmp ha rfl), ?_⟩
    | refine ⟨_, fun tm ha => step1_min rfl (ev_tmp ha rfl) (ev_tmp ha rfl), ?_⟩
    | (refine ⟨_, _, allocT, ?_⟩)
    | (refine ⟨fun _ => ?_, fun _ => ?_⟩ <;> first | (exfalso; omega) | skip)
    | fail
  generalize hsa : Ha.new (Tc T0 (.slice none 0 0)) = Hb
  have hgb := new_get hsa
  have kb := new_keep hsa
  have nb := new_n hsa
  obtain ⟨bx, hbx⟩ : ∃ bx, Ha.n = bx := ⟨_, rfl⟩
  rw [hbx] at hgb nb ⊢
  refine ⟨_, _, storeT (t' := W) hg1.oneC.1 hgb, by omega, ?_⟩
  generalize hsc : Hb.set bx _ = Hc
  have hgc := set_get hsc
  have nc := set_n hsc
  have kc : Keep Ha Hc := keep_put kb (by omega) (set_old hsc) nc
  have k3c := ka.trans kc
  have hg1c := hg1.keep kc
  have he1c := he1.keep kc
  have hgtc : Hc.get bt = some (Tc T A) := by rw [k3c.2 bt (by omega)]; exact hgt3
  have hDc : Deeds Hc dv ds := RowS.keep hD3 k3c
  have hGc := hG3.keep k3c
  have lc := k3c.1
  repeat' first
    | refine CO.cons rfl ?_
    | refine CO.nil ?_
    | refine CV.seq ?_
    | refine CV.region callees ?_
    | refine CV.cond ?_
    | refine CV.block ?_
    | refine CV.skip ?_
    | refine CV.exit ?_
    | refine CV.ret ?_
    | refine CV.scope ?_
    | refine CV.draw callees rfl ?_
    | refine CH.cons rfl ?_
    | refine CH.nil ?_
    | refine CO.consG rfl ?_
    | refine CH.consG rfl ?_
    | refine CG.cons rfl ?_
    | refine CR.cons ?_
    | refine CR.nil ?_
    | refine CG.nil ?_
    | refine CG.consG rfl ?_
    | refine ⟨(rfl : plain _ = true), ?_⟩
    | refine ⟨(rfl : nilOk _ = some _), ?_⟩
    | refine ⟨_, ints_len (by assumption), ?_⟩
    | refine ⟨_, ints_addr (by assumption) (by omega) (by omega), ?_⟩
    | refine ⟨_, ints_load (by assumption) (by omega) (by omega), ?_⟩
    | refine ⟨(⟨by omega, by omega⟩ : inI64 _), ?_⟩
    | refine ⟨_, fun tm ha => step1_max rfl (ev_tmp ha rfl) (ev_tmp ha rfl), ?_⟩
    | refine ⟨_, fun tm ha => step1_min rfl (ev_tmp ha rfl) (ev_tmp ha rfl), ?_⟩
    | (refine ⟨_, errs_len he1c, ?_⟩)
    | (refine ⟨_, dds_len hDc, ?_⟩)
    | (refine ⟨_, loadT hgc, ?_⟩)
    | (refine ⟨fun _ => ?_, fun _ => ?_⟩ <;> first | (exfalso; omega) | skip)
    | fail
  refine (checkTable_spec (by omega) hg1c hVW).mono ?_
  rintro r Hd ⟨rfl, kd⟩
  have ld := kd.1
  have hgxd : Hd.get bx = some (Tc W A1) := by rw [kd.2 bx (by omega)]; exact hgc
  have hgtd : Hd.get bt = some (Tc T A) := by rw [kd.2 bt (by omega)]; exact hgtc
  have hg1d := hg1c.keep kd
  have hGd := hGc.keep kd
  have he1d := he1c.keep kd
  have hDd : Deeds Hd dv ds := RowS.keep hDc kd
  repeat' first
    | refine CO.cons rfl ?_
    | refine CO.nil ?_
    | refine CV.seq ?_
    | refine CV.region callees ?_
    | refine CV.cond ?_
    | refine CV.block ?_
    | refine CV.skip ?_
    | refine CV.exit ?_
    | refine CV.ret ?_
    | refine CV.scope ?_
    | refine CV.draw callees rfl ?_
    | refine CH.cons rfl ?_
    | refine CH.nil ?_
    | refine CO.consG rfl ?_
    | refine CH.consG rfl ?_
    | refine CG.cons rfl ?_
    | refine CR.cons ?_
    | refine CR.nil ?_
    | refine CG.nil ?_
    | refine CG.consG rfl ?_
    | refine ⟨(rfl : plain _ = true), ?_⟩
    | refine ⟨(rfl : nilOk _ = some _), ?_⟩
    | refine ⟨_, ints_len (by assumption), ?_⟩
    | refine ⟨_, ints_addr (by assumption) (by omega) (by omega), ?_⟩
    | refine ⟨_, ints_load (by assumption) (by omega) (by omega), ?_⟩
    | refine ⟨(⟨by omega, by omega⟩ : inI64 _), ?_⟩
    | refine ⟨_, fun tm ha => step1_max rfl (ev_tmp ha rfl) (ev_tmp ha rfl), ?_⟩
    | refine ⟨_, fun tm ha => step1_min rfl (ev_tmp ha rfl) (ev_tmp ha rfl), ?_⟩
    | (refine ⟨_, addrT (by decide), ?_⟩)
    | (refine ⟨Value.int .i64 W.pk, cell_load ag3 hgxd rfl, ?_⟩)
    | (refine ⟨Value.int .i64 T.pk, cell_load ag3 hgtd rfl, ?_⟩)
    | (refine ⟨Value.int .i64 W.ps, cell_load ag3 hgxd rfl, ?_⟩)
    | (refine ⟨Value.int .i64 T.ps, cell_load ag3 hgtd rfl, ?_⟩)
    | (refine ⟨A1, cell_load ag32 hgxd rfl, ?_⟩)
    | (refine ⟨A, cell_load ag32 hgtd rfl, ?_⟩)
    | (refine ⟨_, hg1d.alen, ?_⟩)
    | (refine ⟨_, hGd.alen, ?_⟩)
    | (refine ⟨fun _ => ?_, fun _ => ?_⟩ <;> first | (exfalso; omega) | skip)
    | fail
  refine CV.loopc ?_
  refine WCv.rounds callees false (α := Value × Nat) (fun (q, i) => [(4, .pointer (some ⟨bt, 0, none⟩)), (5, dv), (6, .pointer (some ⟨bx, 0, none⟩)), (7, ev1), (9, q), (10, .int .i64 i)]) (fun (q, i) Hz => i ≤ ds.length ∧ OwnD Hz q (right T (ds.take i)) Hd.n ∧ Keep Hd Hz) (fun (q, i) => ds.length - i) (.slice none 0 0, 0) (by repeat' first | exact trivial | refine ⟨rfl, ?_⟩ | refine ⟨slot_int (by (try simp only [Int.toNat_natCast]); omega), ?_⟩) ?_ ?_
  · exact ⟨by omega, by rw [List.take_zero]; exact OwnS.nil, Keep.refl _⟩
  rintro ⟨q, i⟩ Hx ⟨hi, hq, kx⟩ hBx
  have lx := kx.1
  have hDx : Deeds Hx dv ds := RowS.keep hDd kx
  have he1x := he1d.keep kx
  by_cases hi2 : i < ds.length
  · have hti := htake i hi2
    have hei : es[(i : Int).toNat]! = es[i]! := rfl
    by_cases hz : es[i]! = 0
    · rw [if_pos hz] at hti
      have hrl3 := right_len (ds.take i) T
      rw [List.length_take] at hrl3
      repeat' first
        | refine CO.cons rfl ?_
        | refine CO.nil ?_
        | refine CV.seq ?_
        | refine CV.region callees ?_
        | refine CV.cond ?_
        | refine CV.block ?_
        | refine CV.skip ?_
        | refine CV.exit ?_
        | refine CV.ret ?_
        | refine CV.scope ?_
        | refine CV.draw callees rfl ?_
        | refine CH.cons rfl ?_
        | refine CH.nil ?_
        | refine CO.consG rfl ?_
        | refine CH.consG rfl ?_
        | refine CG.cons rfl ?_
        | refine CR.cons ?_
        | refine CR.nil ?_
        | refine CG.nil ?_
        | refine CG.consG rfl ?_
        | refine ⟨(rfl : plain _ = true), ?_⟩
        | refine ⟨(rfl : nilOk _ = some _), ?_⟩
        | refine ⟨_, ints_len (by assumption), ?_⟩
        | refine ⟨_, ints_addr (by assumption) (by omega) (by omega), ?_⟩
        | refine ⟨_, ints_load (by assumption) (by omega) (by omega), ?_⟩
        | refine ⟨(⟨by omega, by omega⟩ : inI64 _), ?_⟩
        | refine ⟨_, fun tm ha => step1_max rfl (ev_tmp ha rfl) (ev_tmp ha rfl), ?_⟩
        | refine ⟨_, fun tm ha => step1_min rfl (ev_tmp ha rfl) (ev_tmp ha rfl), ?_⟩
        | (refine ⟨_, dds_len hDx, ?_⟩)
        | (refine ⟨_, errs_addr he1x (by omega) (by omega), ?_⟩)
        | (refine ⟨_, errs_load he1x (by omega) (by omega), ?_⟩)
        | (refine ⟨_, dds_addr hDx (by omega) (by omega), ?_⟩)
        | (refine ⟨_, dds_load hDx (by omega) (by omega), ?_⟩)
        | (refine ⟨_, _, buildD1, ?_⟩)
        | (refine ⟨fun _ => ?_, fun _ => ?_⟩ <;> first | (exfalso; omega) | skip)
        | fail
      rw [show ((i : Int)).toNat = i from rfl]
      refine dpush_ask hq (by omega) (by omega) (by omega) ?_
      intro lN HN hlN kbN hfN
      have lN2 := kbN.le
      repeat' first
        | refine CO.cons rfl ?_
        | refine CO.nil ?_
        | refine CV.seq ?_
        | refine CV.region callees ?_
        | refine CV.cond ?_
        | refine CV.block ?_
        | refine CV.skip ?_
        | refine CV.exit ?_
        | refine CV.ret ?_
        | refine CV.scope ?_
        | refine CV.draw callees rfl ?_
        | refine CH.cons rfl ?_
        | refine CH.nil ?_
        | refine CO.consG rfl ?_
        | refine CH.consG rfl ?_
        | refine CG.cons rfl ?_
        | refine CR.cons ?_
        | refine CR.nil ?_
        | refine CG.nil ?_
        | refine CG.consG rfl ?_
        | refine ⟨(rfl : plain _ = true), ?_⟩
        | refine ⟨(rfl : nilOk _ = some _), ?_⟩
        | refine ⟨_, ints_len (by assumption), ?_⟩
        | refine ⟨_, ints_addr (by assumption) (by omega) (by omega), ?_⟩
        | refine ⟨_, ints_load (by assumption) (by omega) (by omega), ?_⟩
        | refine ⟨(⟨by omega, by omega⟩ : inI64 _), ?_⟩
        | refine ⟨_, fun tm ha => step1_max rfl (ev_tmp ha rfl) (ev_tmp ha rfl), ?_⟩
        | refine ⟨_, fun tm ha => step1_min rfl (ev_tmp ha rfl) (ev_tmp ha rfl), ?_⟩
        | (refine ⟨fun _ => ?_, fun _ => ?_⟩ <;> first | (exfalso; omega) | skip)
        | fail
      refine ⟨(lN, i + 1), (by repeat' first | exact trivial | refine ⟨rfl, ?_⟩ | refine ⟨slot_int (by (try simp only [Int.toNat_natCast]); omega), ?_⟩), (by (try dsimp only); omega), ?_⟩
      exact ⟨by omega, by rw [hti]; exact hlN, kbN.keep kx (fun c hc => (hq.lt hc).1)⟩
    · rw [if_neg hz, List.append_nil] at hti
      repeat' first
        | refine CO.cons rfl ?_
        | refine CO.nil ?_
        | refine CV.seq ?_
        | refine CV.region callees ?_
        | refine CV.cond ?_
        | refine CV.block ?_
        | refine CV.skip ?_
        | refine CV.exit ?_
        | refine CV.ret ?_
        | refine CV.scope ?_
        | refine CV.draw callees rfl ?_
        | refine CH.cons rfl ?_
        | refine CH.nil ?_
        | refine CO.consG rfl ?_
        | refine CH.consG rfl ?_
        | refine CG.cons rfl ?_
        | refine CR.cons ?_
        | refine CR.nil ?_
        | refine CG.nil ?_
        | refine CG.consG rfl ?_
        | refine ⟨(rfl : plain _ = true), ?_⟩
        | refine ⟨(rfl : nilOk _ = some _), ?_⟩
        | refine ⟨_, ints_len (by assumption), ?_⟩
        | refine ⟨_, ints_addr (by assumption) (by omega) (by omega), ?_⟩
        | refine ⟨_, ints_load (by assumption) (by omega) (by omega), ?_⟩
        | refine ⟨(⟨by omega, by omega⟩ : inI64 _), ?_⟩
        | refine ⟨_, fun tm ha => step1_max rfl (ev_tmp ha rfl) (ev_tmp ha rfl), ?_⟩
        | refine ⟨_, fun tm ha => step1_min rfl (ev_tmp ha rfl) (ev_tmp ha rfl), ?_⟩
        | (refine ⟨_, dds_len hDx, ?_⟩)
        | (refine ⟨_, errs_addr he1x (by omega) (by omega), ?_⟩)
        | (refine ⟨_, errs_load he1x (by omega) (by omega), ?_⟩)
        | (refine ⟨fun _ => ?_, fun _ => ?_⟩ <;> first | (exfalso; omega) | skip)
        | fail
      refine ⟨(q, i + 1), (by repeat' first | exact trivial | refine ⟨rfl, ?_⟩ | refine ⟨slot_int (by (try simp only [Int.toNat_natCast]); omega), ?_⟩), (by (try dsimp only); omega), ?_⟩
      exact ⟨by omega, by rw [hti]; exact hq, kx⟩
  have hil : i = ds.length := by omega
  subst hil
  rw [hfull] at hq
  have hgtx : Hx.get bt = some (Tc T A) := by rw [kx.2 bt (by omega)]; exact hgtd
  have hgxx : Hx.get bx = some (Tc W A1) := by rw [kx.2 bx (by omega)]; exact hgxd
  have hGx := hGd.keep kx
  have hg1x := hg1d.keep kx
  have hQx : Deeds Hx q (right T ds) := hq.row
  repeat' first
    | refine CO.cons rfl ?_
    | refine CO.nil ?_
    | refine CV.seq ?_
    | refine CV.region callees ?_
    | refine CV.cond ?_
    | refine CV.block ?_
    | refine CV.skip ?_
    | refine CV.exit ?_
    | refine CV.ret ?_
    | refine CV.scope ?_
    | refine CV.draw callees rfl ?_
    | refine CH.cons rfl ?_
    | refine CH.nil ?_
    | refine CO.consG rfl ?_
    | refine CH.consG rfl ?_
    | refine CG.cons rfl ?_
    | refine CR.cons ?_
    | refine CR.nil ?_
    | refine CG.nil ?_
    | refine CG.consG rfl ?_
    | refine ⟨(rfl : plain _ = true), ?_⟩
    | refine ⟨(rfl : nilOk _ = some _), ?_⟩
    | refine ⟨_, ints_len (by assumption), ?_⟩
    | refine ⟨_, ints_addr (by assumption) (by omega) (by omega), ?_⟩
    | refine ⟨_, ints_load (by assumption) (by omega) (by omega), ?_⟩
    | refine ⟨(⟨by omega, by omega⟩ : inI64 _), ?_⟩
    | refine ⟨_, fun tm ha => step1_max rfl (ev_tmp ha rfl) (ev_tmp ha rfl), ?_⟩
    | refine ⟨_, fun tm ha => step1_min rfl (ev_tmp ha rfl) (ev_tmp ha rfl), ?_⟩
    | (refine ⟨_, dds_len hDx, ?_⟩)
    | (refine ⟨_, loadT hgtx, ?_⟩)
    | (refine ⟨fun _ => ?_, fun _ => ?_⟩ <;> first | (exfalso; omega) | skip)
    | fail
  refine (runAny_spec (by omega) hGx hVT hQx (by omega)).mono ?_
  rintro r He ⟨⟨A2, v2, ev2, rfl, hg2, he2⟩, ke⟩
  rw [hright] at hg2 ⊢
  have le := ke.1
  repeat' first
    | refine CO.cons rfl ?_
    | refine CO.nil ?_
    | refine CV.seq ?_
    | refine CV.region callees ?_
    | refine CV.cond ?_
    | refine CV.block ?_
    | refine CV.skip ?_
    | refine CV.exit ?_
    | refine CV.ret ?_
    | refine CV.scope ?_
    | refine CV.draw callees rfl ?_
    | refine CH.cons rfl ?_
    | refine CH.nil ?_
    | refine CO.consG rfl ?_
    | refine CH.consG rfl ?_
    | refine CG.cons rfl ?_
    | refine CR.cons ?_
    | refine CR.nil ?_
    | refine CG.nil ?_
    | refine CG.consG rfl ?_
    | refine ⟨(rfl : plain _ = true), ?_⟩
    | refine ⟨(rfl : nilOk _ = some _), ?_⟩
    | refine ⟨_, ints_len (by assumption), ?_⟩
    | refine ⟨_, ints_addr (by assumption) (by omega) (by omega), ?_⟩
    | refine ⟨_, ints_load (by assumption) (by omega) (by omega), ?_⟩
    | refine ⟨(⟨by omega, by omega⟩ : inI64 _), ?_⟩
    | refine ⟨_, fun tm ha => step1_max rfl (ev_tmp ha rfl) (ev_tmp ha rfl), ?_⟩
    | refine ⟨_, fun tm ha => step1_min rfl (ev_tmp ha rfl) (ev_tmp ha rfl), ?_⟩
    | (refine ⟨_, _, allocT, ?_⟩)
    | (refine ⟨fun _ => ?_, fun _ => ?_⟩ <;> first | (exfalso; omega) | skip)
    | fail
  generalize hse : He.new (Tc T0 (.slice none 0 0)) = Hf
  have hgf := new_get hse
  have kf := new_keep hse
  have nf := new_n hse
  obtain ⟨by', hby⟩ : ∃ by', He.n = by' := ⟨_, rfl⟩
  rw [hby] at hgf nf ⊢
  refine ⟨_, _, storeT (t' := W) hg2.oneC.1 hgf, by omega, ?_⟩
  generalize hsg : Hf.set by' _ = Hg
  have hgg := set_get hsg
  have ng := set_n hsg
  have kg : Keep He Hg := keep_put kf (by omega) (set_old hsg) ng
  have kxg := ke.trans kg
  have lg := kxg.1
  have hg1g := hg1x.keep kxg
  have hg2g := hg2.keep kg
  have he2g := he2.keep kg
  have hgxg : Hg.get bx = some (Tc W A1) := by rw [kxg.2 bx (by omega)]; exact hgxx
  have hQg : Deeds Hg q (right T ds) := RowS.keep hQx kxg
  generalize hE2 : runE T (right T ds) = fs at he2g hok hrl2
  repeat' first
    | refine CO.cons rfl ?_
    | refine CO.nil ?_
    | refine CV.seq ?_
    | refine CV.region callees ?_
    | refine CV.cond ?_
    | refine CV.block ?_
    | refine CV.skip ?_
    | refine CV.exit ?_
    | refine CV.ret ?_
    | refine CV.scope ?_
    | refine CV.draw callees rfl ?_
    | refine CH.cons rfl ?_
    | refine CH.nil ?_
    | refine CO.consG rfl ?_
    | refine CH.consG rfl ?_
    | refine CG.cons rfl ?_
    | refine CR.cons ?_
    | refine CR.nil ?_
    | refine CG.nil ?_
    | refine CG.consG rfl ?_
    | refine ⟨(rfl : plain _ = true), ?_⟩
    | refine ⟨(rfl : nilOk _ = some _), ?_⟩
    | refine ⟨_, ints_len (by assumption), ?_⟩
    | refine ⟨_, ints_addr (by assumption) (by omega) (by omega), ?_⟩
    | refine ⟨_, ints_load (by assumption) (by omega) (by omega), ?_⟩
    | refine ⟨(⟨by omega, by omega⟩ : inI64 _), ?_⟩
    | refine ⟨_, fun tm ha => step1_max rfl (ev_tmp ha rfl) (ev_tmp ha rfl), ?_⟩
    | refine ⟨_, fun tm ha => step1_min rfl (ev_tmp ha rfl) (ev_tmp ha rfl), ?_⟩
    | (refine ⟨_, errs_len he2g, ?_⟩)
    | (refine ⟨_, dds_len hQg, ?_⟩)
    | (refine ⟨_, loadT hgxg, ?_⟩)
    | (refine ⟨_, loadT hgg, ?_⟩)
    | (refine ⟨fun _ => ?_, fun _ => ?_⟩ <;> first | (exfalso; omega) | skip)
    | fail
  refine (eqTables_spec (t := W) (by omega) hg1g hg2g hVW).mono ?_
  rintro r Hh ⟨rfl, kh⟩
  have lh := kh.1
  have he2h := he2g.keep kh
  repeat' first
    | refine CO.cons rfl ?_
    | refine CO.nil ?_
    | refine CV.seq ?_
    | refine CV.region callees ?_
    | refine CV.cond ?_
    | refine CV.block ?_
    | refine CV.skip ?_
    | refine CV.exit ?_
    | refine CV.ret ?_
    | refine CV.scope ?_
    | refine CV.draw callees rfl ?_
    | refine CH.cons rfl ?_
    | refine CH.nil ?_
    | refine CO.consG rfl ?_
    | refine CH.consG rfl ?_
    | refine CG.cons rfl ?_
    | refine CR.cons ?_
    | refine CR.nil ?_
    | refine CG.nil ?_
    | refine CG.consG rfl ?_
    | refine ⟨(rfl : plain _ = true), ?_⟩
    | refine ⟨(rfl : nilOk _ = some _), ?_⟩
    | refine ⟨_, ints_len (by assumption), ?_⟩
    | refine ⟨_, ints_addr (by assumption) (by omega) (by omega), ?_⟩
    | refine ⟨_, ints_load (by assumption) (by omega) (by omega), ?_⟩
    | refine ⟨(⟨by omega, by omega⟩ : inI64 _), ?_⟩
    | refine ⟨_, fun tm ha => step1_max rfl (ev_tmp ha rfl) (ev_tmp ha rfl), ?_⟩
    | refine ⟨_, fun tm ha => step1_min rfl (ev_tmp ha rfl) (ev_tmp ha rfl), ?_⟩
    | (refine ⟨fun _ => ?_, fun _ => ?_⟩ <;> first | (exfalso; omega) | skip)
    | fail
  refine CV.loopc ?_
  refine WCv.rounds callees false (α := Nat) (fun i => [(12, ev2), (14, .int .i64 i)]) (fun i Hz => i ≤ fs.length ∧ Hz = Hh) (fun i => fs.length - i) (0) (by repeat' first | exact trivial | refine ⟨rfl, ?_⟩ | refine ⟨slot_int (by (try simp only [Int.toNat_natCast]); omega), ?_⟩) ?_ ?_
  · exact ⟨by omega, rfl⟩
  rintro i Hi ⟨hi3, rfl⟩ hBi
  by_cases hi4 : i < fs.length
  · have hfi : fs[(i : Int).toNat]! = 0 := by
      show fs[i]! = 0
      exact hok _ (by rw [getElem!_pos fs i hi4]; exact List.getElem_mem hi4)
    repeat' first
      | refine CO.cons rfl ?_
      | refine CO.nil ?_
      | refine CV.seq ?_
      | refine CV.region callees ?_
      | refine CV.cond ?_
      | refine CV.block ?_
      | refine CV.skip ?_
      | refine CV.exit ?_
      | refine CV.ret ?_
      | refine CV.scope ?_
      | refine CV.draw callees rfl ?_
      | refine CH.cons rfl ?_
      | refine CH.nil ?_
      | refine CO.consG rfl ?_
      | refine CH.consG rfl ?_
      | refine CG.cons rfl ?_
      | refine CR.cons ?_
      | refine CR.nil ?_
      | refine CG.nil ?_
      | refine CG.consG rfl ?_
      | refine ⟨(rfl : plain _ = true), ?_⟩
      | refine ⟨(rfl : nilOk _ = some _), ?_⟩
      | refine ⟨_, ints_len (by assumption), ?_⟩
      | refine ⟨_, ints_addr (by assumption) (by omega) (by omega), ?_⟩
      | refine ⟨_, ints_load (by assumption) (by omega) (by omega), ?_⟩
      | refine ⟨(⟨by omega, by omega⟩ : inI64 _), ?_⟩
      | refine ⟨_, fun tm ha => step1_max rfl (ev_tmp ha rfl) (ev_tmp ha rfl), ?_⟩
      | refine ⟨_, fun tm ha => step1_min rfl (ev_tmp ha rfl) (ev_tmp ha rfl), ?_⟩
      | (refine ⟨_, errs_len he2h, ?_⟩)
      | (refine ⟨_, errs_addr he2h (by omega) (by omega), ?_⟩)
      | (refine ⟨_, errs_load he2h (by omega) (by omega), ?_⟩)
      | (refine ⟨fun _ => ?_, fun _ => ?_⟩ <;> first | (exfalso; omega) | skip)
      | fail
    refine ⟨(i + 1), (by repeat' first | exact trivial | refine ⟨rfl, ?_⟩ | refine ⟨slot_int (by (try simp only [Int.toNat_natCast]); omega), ?_⟩), (by (try dsimp only); omega), ?_⟩
    exact ⟨by omega, rfl⟩
  · repeat' first
      | refine CO.cons rfl ?_
      | refine CO.nil ?_
      | refine CV.seq ?_
      | refine CV.region callees ?_
      | refine CV.cond ?_
      | refine CV.block ?_
      | refine CV.skip ?_
      | refine CV.exit ?_
      | refine CV.ret ?_
      | refine CV.scope ?_
      | refine CV.draw callees rfl ?_
      | refine CH.cons rfl ?_
      | refine CH.nil ?_
      | refine CO.consG rfl ?_
      | refine CH.consG rfl ?_
      | refine CG.cons rfl ?_
      | refine CR.cons ?_
      | refine CR.nil ?_
      | refine CG.nil ?_
      | refine CG.consG rfl ?_
      | refine ⟨(rfl : plain _ = true), ?_⟩
      | refine ⟨(rfl : nilOk _ = some _), ?_⟩
      | refine ⟨_, ints_len (by assumption), ?_⟩
      | refine ⟨_, ints_addr (by assumption) (by omega) (by omega), ?_⟩
      | refine ⟨_, ints_load (by assumption) (by omega) (by omega), ?_⟩
      | refine ⟨(⟨by omega, by omega⟩ : inI64 _), ?_⟩
      | refine ⟨_, fun tm ha => step1_max rfl (ev_tmp ha rfl) (ev_tmp ha rfl), ?_⟩
      | refine ⟨_, fun tm ha => step1_min rfl (ev_tmp ha rfl) (ev_tmp ha rfl), ?_⟩
      | (refine ⟨_, errs_len he2h, ?_⟩)
      | refine CallB.known rfl (base_any _) (by omega) ?_
      | (refine ⟨fun _ => ?_, fun _ => ?_⟩ <;> first | (exfalso; omega) | skip)
      | fail
    exact ⟨rfl, rfl⟩
end Go.Proofs.Ytcpklnekpdhlmaa
