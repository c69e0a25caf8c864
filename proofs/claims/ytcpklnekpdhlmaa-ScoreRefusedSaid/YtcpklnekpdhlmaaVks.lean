/- All deeds, by the program. -/
import Derived.Test.YtcpklnekpdhlmaaVjs
set_option linter.unusedVariables false
set_option linter.unusedSimpArgs false
namespace Go.Proofs.Ytcpklnekpdhlmaa
open Go.AI
set_option linter.unusedVariables false
set_option linter.unusedSimpArgs false
set_option maxHeartbeats 4000000 in
set_option maxRecDepth 100000 in
theorem runAny_spec {B : Nat} {H : Heap} {t : Tb} {A dv : Value} {vals : List Value} {ds : List Dd} (hB : B ≤ H.n) (hg : Grid H A vals t.rs) (hv : Vt t) (hds : Deeds H dv ds) (hn : ds.length ≤ 200) :
    CallB Try.prog B 38 [Tv t A, dv] H (fun r H' => (∃ A' vals' ev, r = .tuple #[Tv (runT t ds) A', ev, .int .i64 0] ∧ Grid H' A' vals' (runT t ds).rs ∧ Own 37 H' ev ((runE t ds).map VI) H.n) ∧ Keep H H') := by
  refine CV.enter callees false rfl Try.func38 rfl (by kernel_rfl) (Nat.le_of_ble_eq_true rfl) hB ?_
  repeat' first
    | refine CO.cons rfl ?_
    | refine CO.nil ?_
    | refine CV.seq ?_
    | refine CV.region callees ?_
    | refine CV.cond ?_
    | refine CV.block ?_
    | refine CV.skip ?_
    | refine CV.exit ?_
    | refine CV.ret ?_
    | refine CV.scope ?_
    | refine CV.draw callees rfl ?_
    | refine CH.cons rfl ?_
    | refine CH.nil ?_
    | refine CO.consG rfl ?_
    | refine CH.consG rfl ?_
    | refine CG.cons rfl ?_
    | refine CR.cons ?_
    | refine CR.nil ?_
    | refine CG.nil ?_
    | refine CG.consG rfl ?_
    | refine ⟨(rfl : plain _ = true), ?_⟩
    | refine ⟨(rfl : nilOk _ = some _), ?_⟩
    | refine ⟨_, ints_len (by assumption), ?_⟩
    | refine ⟨_, ints_addr (by assumption) (by omega) (by omega), ?_⟩
    | refine ⟨_, ints_load (by assumption) (by omega) (by omega), ?_⟩
    | refine ⟨(⟨by omega, by omega⟩ : inI64 _), ?_⟩
    | refine ⟨_, fun tm ha => step1_max rfl (ev_tmp ha rfl) (ev_tmp ha rfl), ?_⟩
    | refine ⟨_, fun tm ha => step1_min rfl (ev_tmp ha rfl) (ev_tmp ha rfl), ?_⟩
    | (refine ⟨fun _ => ?_, fun _ => ?_⟩ <;> first | (exfalso; omega) | skip)
    | fail
  refine ⟨(by simp only [notTuple]), ?_⟩
  rw [alloc_t hg.oneC.2]
  generalize hs : H.new (Tc t A) = Hs
  have hgt := new_get hs
  have k1 := new_keep hs
  have n1 := new_n hs
  repeat' first
    | refine CO.cons rfl ?_
    | refine CO.nil ?_
    | refine CV.seq ?_
    | refine CV.region callees ?_
    | refine CV.cond ?_
    | refine CV.block ?_
    | refine CV.skip ?_
    | refine CV.exit ?_
    | refine CV.ret ?_
    | refine CV.scope ?_
    | refine CV.draw callees rfl ?_
    | refine CH.cons rfl ?_
    | refine CH.nil ?_
    | refine CO.consG rfl ?_
    | refine CH.consG rfl ?_
    | refine CG.cons rfl ?_
    | refine CR.cons ?_
    | refine CR.nil ?_
    | refine CG.nil ?_
    | refine CG.consG rfl ?_
    | refine ⟨(rfl : plain _ = true), ?_⟩
    | refine ⟨(rfl : nilOk _ = some _), ?_⟩
    | refine ⟨_, ints_len (by assumption), ?_⟩
    | refine ⟨_, ints_addr (by assumption) (by omega) (by omega), ?_⟩
    | refine ⟨_, ints_load (by assumption) (by omega) (by omega), ?_⟩
    | refine ⟨(⟨by omega, by omega⟩ : inI64 _), ?_⟩
    | refine ⟨_, fun tm ha => step1_max rfl (ev_tmp ha rfl) (ev_tmp ha rfl), ?_⟩
    | refine ⟨_, fun tm ha => step1_min rfl (ev_tmp ha rfl) (ev_tmp ha rfl), ?_⟩
    | (refine ⟨_, _, allocT, ?_⟩)
    | (refine ⟨fun _ => ?_, fun _ => ?_⟩ <;> first | (exfalso; omega) | skip)
    | fail
  generalize hs2 : Hs.new (Tc T0 (.slice none 0 0)) = H2
  have hgr := new_get hs2
  have k2 := new_keep hs2
  have n2 := new_n hs2
  obtain ⟨bq, hbq⟩ : ∃ bq, Hs.n = bq := ⟨_, rfl⟩
  rw [hbq] at hgr n2 ⊢
  have hgt2 : H2.get H.n = some (Tc t A) := by rw [k2.2 _ (by omega)]; exact hgt
  have hg2 : Grid H2 A vals t.rs := hg.keep (k1.trans k2)
  repeat' first
    | refine CO.cons rfl ?_
    | refine CO.nil ?_
    | refine CV.seq ?_
    | refine CV.region callees ?_
    | refine CV.cond ?_
    | refine CV.block ?_
    | refine CV.skip ?_
    | refine CV.exit ?_
    | refine CV.ret ?_
    | refine CV.scope ?_
    | refine CV.draw callees rfl ?_
    | refine CH.cons rfl ?_
    | refine CH.nil ?_
    | refine CO.consG rfl ?_
    | refine CH.consG rfl ?_
    | refine CG.cons rfl ?_
    | refine CR.cons ?_
    | refine CR.nil ?_
    | refine CG.nil ?_
    | refine CG.consG rfl ?_
    | refine ⟨(rfl : plain _ = true), ?_⟩
    | refine ⟨(rfl : nilOk _ = some _), ?_⟩
    | refine ⟨_, ints_len (by assumption), ?_⟩
    | refine ⟨_, ints_addr (by assumption) (by omega) (by omega), ?_⟩
    | refine ⟨_, ints_load (by assumption) (by omega) (by omega), ?_⟩
    | refine ⟨(⟨by omega, by omega⟩ : inI64 _), ?_⟩
    | refine ⟨_, fun tm ha => step1_max rfl (ev_tmp ha rfl) (ev_tmp ha rfl), ?_⟩
    | refine ⟨_, fun tm ha => step1_min rfl (ev_tmp ha rfl) (ev_tmp ha rfl), ?_⟩
    | (refine ⟨_, loadT hgt2, ?_⟩)
    | (refine ⟨fun _ => ?_, fun _ => ?_⟩ <;> first | (exfalso; omega) | skip)
    | fail
  refine (checkTable_spec (by omega) hg2 hv).mono ?_
  rintro r H3 ⟨rfl, k3⟩
  have l3 := k3.1
  have hgt3 : H3.get H.n = some (Tc t A) := by rw [k3.2 _ (by omega)]; exact hgt2
  have hgr3 : H3.get bq = some (Tc T0 (.slice none 0 0)) := by rw [k3.2 _ (by omega)]; exact hgr
  have hd3 : Deeds H3 dv ds := RowS.keep hds ((k1.trans k2).trans k3)
  repeat' first
    | refine CO.cons rfl ?_
    | refine CO.nil ?_
    | refine CV.seq ?_
    | refine CV.region callees ?_
    | refine CV.cond ?_
    | refine CV.block ?_
    | refine CV.skip ?_
    | refine CV.exit ?_
    | refine CV.ret ?_
    | refine CV.scope ?_
    | refine CV.draw callees rfl ?_
    | refine CH.cons rfl ?_
    | refine CH.nil ?_
    | refine CO.consG rfl ?_
    | refine CH.consG rfl ?_
    | refine CG.cons rfl ?_
    | refine CR.cons ?_
    | refine CR.nil ?_
    | refine CG.nil ?_
    | refine CG.consG rfl ?_
    | refine ⟨(rfl : plain _ = true), ?_⟩
    | refine ⟨(rfl : nilOk _ = some _), ?_⟩
    | refine ⟨_, ints_len (by assumption), ?_⟩
    | refine ⟨_, ints_addr (by assumption) (by omega) (by omega), ?_⟩
    | refine ⟨_, ints_load (by assumption) (by omega) (by omega), ?_⟩
    | refine ⟨(⟨by omega, by omega⟩ : inI64 _), ?_⟩
    | refine ⟨_, fun tm ha => step1_max rfl (ev_tmp ha rfl) (ev_tmp ha rfl), ?_⟩
    | refine ⟨_, fun tm ha => step1_min rfl (ev_tmp ha rfl) (ev_tmp ha rfl), ?_⟩
    | refine ⟨_, dds_len hd3, ?_⟩
    | (refine ⟨_, loadT hgt3, ?_⟩)
    | (refine ⟨fun _ => ?_, fun _ => ?_⟩ <;> first | (exfalso; omega) | skip)
    | fail
  refine (begun_spec (by omega) (hg2.keep k3) hv).mono ?_
  rintro r H4 ⟨⟨bw, A', ws, rfl, hwk⟩, k4⟩
  have l4 := k4.1
  have hgr4 : H4.get bq = some (Tc T0 (.slice none 0 0)) := by rw [k4.2 _ (by omega)]; exact hgr3
  have kk4 : Keep H H4 := ((k1.trans k2).trans k3).trans k4
  have hbw := hwk.lt
  have hbl := hwk.lo
  have hAb : ∀ c, blkOf A' = some c → H3.n ≤ c ∧ c < H4.n := fun c hc => hwk.own.own.lt hc
  have hrb : ∀ i : Nat, i < t.rs.length → ∀ c, blkOf ws[i]! = some c → H3.n ≤ c ∧ c < H4.n := fun i hi c hc => (hwk.own.at' i hi).lt hc
  repeat' first
    | refine CO.cons rfl ?_
    | refine CO.nil ?_
    | refine CV.seq ?_
    | refine CV.region callees ?_
    | refine CV.cond ?_
    | refine CV.block ?_
    | refine CV.skip ?_
    | refine CV.exit ?_
    | refine CV.ret ?_
    | refine CV.scope ?_
    | refine CV.draw callees rfl ?_
    | refine CH.cons rfl ?_
    | refine CH.nil ?_
    | refine CO.consG rfl ?_
    | refine CH.consG rfl ?_
    | refine CG.cons rfl ?_
    | refine CR.cons ?_
    | refine CR.nil ?_
    | refine CG.nil ?_
    | refine CG.consG rfl ?_
    | refine ⟨(rfl : plain _ = true), ?_⟩
    | refine ⟨(rfl : nilOk _ = some _), ?_⟩
    | refine ⟨_, ints_len (by assumption), ?_⟩
    | refine ⟨_, ints_addr (by assumption) (by omega) (by omega), ?_⟩
    | refine ⟨_, ints_load (by assumption) (by omega) (by omega), ?_⟩
    | refine ⟨(⟨by omega, by omega⟩ : inI64 _), ?_⟩
    | refine ⟨_, fun tm ha => step1_max rfl (ev_tmp ha rfl) (ev_tmp ha rfl), ?_⟩
    | refine ⟨_, fun tm ha => step1_min rfl (ev_tmp ha rfl) (ev_tmp ha rfl), ?_⟩
    | (refine ⟨_, _, alloc65, ?_⟩)
    | (refine ⟨fun _ => ?_, fun _ => ?_⟩ <;> first | (exfalso; omega) | skip)
    | fail
  generalize hs5 : H4.new (.cells [.slice none 0 0] 65 1) = H5
  have hge := new_get hs5
  have k5 := new_keep hs5
  have n5 := new_n hs5
  obtain ⟨br, hbr⟩ : ∃ br, H4.n = br := ⟨_, rfl⟩
  rw [hbr] at hge n5 ⊢
  have hd5 : Deeds H5 dv ds := RowS.keep hds (kk4.trans k5)
  have hgr5 : H5.get bq = some (Tc T0 (.slice none 0 0)) := by rw [k5.2 _ (by omega)]; exact hgr4
  have hc5 : ([.pointer (some ⟨br, 0, none⟩)] : List Value).all cellLike = true := rfl
  repeat' first
    | refine CO.cons rfl ?_
    | refine CO.nil ?_
    | refine CV.seq ?_
    | refine CV.region callees ?_
    | refine CV.cond ?_
    | refine CV.block ?_
    | refine CV.skip ?_
    | refine CV.exit ?_
    | refine CV.ret ?_
    | refine CV.scope ?_
    | refine CV.draw callees rfl ?_
    | refine CH.cons rfl ?_
    | refine CH.nil ?_
    | refine CO.consG rfl ?_
    | refine CH.consG rfl ?_
    | refine CG.cons rfl ?_
    | refine CR.cons ?_
    | refine CR.nil ?_
    | refine CG.nil ?_
    | refine CG.consG rfl ?_
    | refine ⟨(rfl : plain _ = true), ?_⟩
    | refine ⟨(rfl : nilOk _ = some _), ?_⟩
    | refine ⟨_, ints_len (by assumption), ?_⟩
    | refine ⟨_, ints_addr (by assumption) (by omega) (by omega), ?_⟩
    | refine ⟨_, ints_load (by assumption) (by omega) (by omega), ?_⟩
    | refine ⟨(⟨by omega, by omega⟩ : inI64 _), ?_⟩
    | refine ⟨_, fun tm ha => step1_max rfl (ev_tmp ha rfl) (ev_tmp ha rfl), ?_⟩
    | refine ⟨_, fun tm ha => step1_min rfl (ev_tmp ha rfl) (ev_tmp ha rfl), ?_⟩
    | (refine ⟨(rfl : ([] : List Value).all cellLike = true), ?_⟩)
    | (refine ⟨hc5, ?_⟩)
    | refine ⟨_, dds_len hd5, ?_⟩
    | (refine ⟨fun _ => ?_, fun _ => ?_⟩ <;> first | (exfalso; omega) | skip)
    | fail
  refine CV.loopc ?_
  refine WCv.rounds callees false (α := Value × Nat) (fun (ev, i) => [(1, dv), (4, .pointer (some ⟨bq, 0, none⟩)), (8, .pointer (some ⟨bw, 0, none⟩)), (9, .pointer (some ⟨br, 0, none⟩)), (10, .func (.func 68) #[] #[.pointer (some ⟨br, 0, none⟩)]), (26, dv), (27, .int .i64 ds.length), (28, .int .i64 i)]) (fun (ev, i) Hz => i ≤ ds.length ∧ Work Hz bw A' ws (runT t (ds.take i)) B ∧ Hz.get br = some (.cells [ev] 65 1) ∧ Own 37 Hz ev ((runE t (ds.take i)).map VI) H5.n ∧ H5.n ≤ Hz.n ∧ (∀ c, c < H3.n → Hz.get c = H5.get c)) (fun (ev, i) => ds.length - i) (.slice none 0 0, 0) (by repeat' first | exact trivial | refine ⟨rfl, ?_⟩ | refine ⟨slot_int (by (try simp only [Int.toNat_natCast]); omega), ?_⟩) ?_ ?_
  · exact ⟨by omega, by rw [List.take_zero]; exact (hwk.keep k5).low (by omega), hge, .inl ⟨rfl, by rw [List.take_zero]; rfl⟩, Nat.le_refl _, fun c _ => rfl⟩
  rintro ⟨ev, i⟩ Hx ⟨hi, hwx, hgx, hev, lx, hfr⟩ hBx
  have ht := Vt.run (ds.take i) hv
  have hsame := runT_same (ds.take i) t
  have kx : Keep H Hx := ⟨by omega, fun c hc => by rw [hfr c (by omega), k5.2 c (by omega)]; exact kk4.2 c hc⟩
  have hdx : Deeds Hx dv ds := RowS.keep hds kx
  by_cases hi2 : i < ds.length
  · obtain ⟨eT, eE⟩ := run_take (t := t) hi2
    have hle : (runE t (ds.take i)).length = i := by rw [runE_len, List.length_take]; omega
    repeat' first
      | refine CO.cons rfl ?_
      | refine CO.nil ?_
      | refine CV.seq ?_
      | refine CV.region callees ?_
      | refine CV.cond ?_
      | refine CV.block ?_
      | refine CV.skip ?_
      | refine CV.exit ?_
      | refine CV.ret ?_
      | refine CV.scope ?_
      | refine CV.draw callees rfl ?_
      | refine CH.cons rfl ?_
      | refine CH.nil ?_
      | refine CO.consG rfl ?_
      | refine CH.consG rfl ?_
      | refine CG.cons rfl ?_
      | refine CR.cons ?_
      | refine CR.nil ?_
      | refine CG.nil ?_
      | refine CG.consG rfl ?_
      | refine ⟨(rfl : plain _ = true), ?_⟩
      | refine ⟨(rfl : nilOk _ = some _), ?_⟩
      | refine ⟨_, ints_len (by assumption), ?_⟩
      | refine ⟨_, ints_addr (by assumption) (by omega) (by omega), ?_⟩
      | refine ⟨_, ints_load (by assumption) (by omega) (by omega), ?_⟩
      | refine ⟨(⟨by omega, by omega⟩ : inI64 _), ?_⟩
      | refine ⟨_, fun tm ha => step1_max rfl (ev_tmp ha rfl) (ev_tmp ha rfl), ?_⟩
      | refine ⟨_, fun tm ha => step1_min rfl (ev_tmp ha rfl) (ev_tmp ha rfl), ?_⟩
      | refine ⟨_, dds_addr hdx (by omega) (by omega), ?_⟩
      | refine ⟨_, dds_load hdx (by omega) (by omega), ?_⟩
      | (refine ⟨_, _, allocD, ?_⟩)
      | (refine ⟨fun _ => ?_, fun _ => ?_⟩ <;> first | (exfalso; omega) | skip)
      | fail
    rw [show ((i : Int)).toNat = i from rfl]
    generalize hs6 : Hx.new (Dc ⟨0, 0, 0, 0⟩) = H6
    have hg6 := new_get hs6
    have k6 := new_keep hs6
    have n6 := new_n hs6
    obtain ⟨bd, hbd⟩ : ∃ bd, Hx.n = bd := ⟨_, rfl⟩
    rw [hbd] at hg6 n6 ⊢
    refine ⟨_, _, storeD hg6, by omega, ?_⟩
    generalize hs7 : H6.set bd _ = H7
    have hg7 := set_get hs7
    have n7 := set_n hs7
    have k7 : Keep Hx H7 := keep_put k6 (by omega) (set_old hs7) n7
    have l7 := k7.1
    repeat' first
      | refine CO.cons rfl ?_
      | refine CO.nil ?_
      | refine CV.seq ?_
      | refine CV.region callees ?_
      | refine CV.cond ?_
      | refine CV.block ?_
      | refine CV.skip ?_
      | refine CV.exit ?_
      | refine CV.ret ?_
      | refine CV.scope ?_
      | refine CV.draw callees rfl ?_
      | refine CH.cons rfl ?_
      | refine CH.nil ?_
      | refine CO.consG rfl ?_
      | refine CH.consG rfl ?_
      | refine CG.cons rfl ?_
      | refine CR.cons ?_
      | refine CR.nil ?_
      | refine CG.nil ?_
      | refine CG.consG rfl ?_
      | refine ⟨(rfl : plain _ = true), ?_⟩
      | refine ⟨(rfl : nilOk _ = some _), ?_⟩
      | refine ⟨_, ints_len (by assumption), ?_⟩
      | refine ⟨_, ints_addr (by assumption) (by omega) (by omega), ?_⟩
      | refine ⟨_, ints_load (by assumption) (by omega) (by omega), ?_⟩
      | refine ⟨(⟨by omega, by omega⟩ : inI64 _), ?_⟩
      | refine ⟨_, fun tm ha => step1_max rfl (ev_tmp ha rfl) (ev_tmp ha rfl), ?_⟩
      | refine ⟨_, fun tm ha => step1_min rfl (ev_tmp ha rfl) (ev_tmp ha rfl), ?_⟩
      | (refine ⟨_, loadD hg7, ?_⟩)
      | (refine ⟨fun _ => ?_, fun _ => ?_⟩ <;> first | (exfalso; omega) | skip)
      | fail
    refine (doAny_spec (by omega) (hwx.keep k7) ht).mono ?_
    rintro r H8 ⟨rfl, hw8, kw8⟩
    have l8 := kw8.le
    have hgb : ∀ c, c < H7.n → H5.n ≤ c + 1 → H8.get c = H7.get c := fun c hc hc2 => kw8.get c hc (by omega) (fun i hi h => by
      rw [hsame.2.1] at hi
      have := (hrb i hi c h).2
      omega)
    have hgx8 : H8.get br = some (.cells [ev] 65 1) := by rw [hgb br (by omega) (by omega), k7.2 br (by omega)]; exact hgx
    have hev8 : Own 37 H8 ev ((runE t (ds.take i)).map VI) H5.n := by
      rcases hev with h | ⟨b, rfl, h2, h3, h4⟩
      · exact .inl h
      · exact .inr ⟨b, rfl, h2, by omega, by rw [hgb b (by omega) (by omega), k7.2 b h3]; exact h4⟩
    repeat' first
      | refine CO.cons rfl ?_
      | refine CO.nil ?_
      | refine CV.seq ?_
      | refine CV.region callees ?_
      | refine CV.cond ?_
      | refine CV.block ?_
      | refine CV.skip ?_
      | refine CV.exit ?_
      | refine CV.ret ?_
      | refine CV.scope ?_
      | refine CV.draw callees rfl ?_
      | refine CH.cons rfl ?_
      | refine CH.nil ?_
      | refine CO.consG rfl ?_
      | refine CH.consG rfl ?_
      | refine CG.cons rfl ?_
      | refine CR.cons ?_
      | refine CR.nil ?_
      | refine CG.nil ?_
      | refine CG.consG rfl ?_
      | refine ⟨(rfl : plain _ = true), ?_⟩
      | refine ⟨(rfl : nilOk _ = some _), ?_⟩
      | refine ⟨_, ints_len (by assumption), ?_⟩
      | refine ⟨_, ints_addr (by assumption) (by omega) (by omega), ?_⟩
      | refine ⟨_, ints_load (by assumption) (by omega) (by omega), ?_⟩
      | refine ⟨(⟨by omega, by omega⟩ : inI64 _), ?_⟩
      | refine ⟨_, fun tm ha => step1_max rfl (ev_tmp ha rfl) (ev_tmp ha rfl), ?_⟩
      | refine ⟨_, fun tm ha => step1_min rfl (ev_tmp ha rfl) (ev_tmp ha rfl), ?_⟩
      | (refine ⟨fun _ => ?_, fun _ => ?_⟩ <;> first | (exfalso; omega) | skip)
      | fail
    refine (gather_spec (B1 := H5.n) (by omega) (by omega) (by omega) (by omega) (by omega) hgx8 hev8).mono ?_
    rintro r H9 ⟨⟨ev', hg9, hev9⟩, l9, hf9⟩
    repeat' first
      | refine CO.cons rfl ?_
      | refine CO.nil ?_
      | refine CV.seq ?_
      | refine CV.region callees ?_
      | refine CV.cond ?_
      | refine CV.block ?_
      | refine CV.skip ?_
      | refine CV.exit ?_
      | refine CV.ret ?_
      | refine CV.scope ?_
      | refine CV.draw callees rfl ?_
      | refine CH.cons rfl ?_
      | refine CH.nil ?_
      | refine CO.consG rfl ?_
      | refine CH.consG rfl ?_
      | refine CG.cons rfl ?_
      | refine CR.cons ?_
      | refine CR.nil ?_
      | refine CG.nil ?_
      | refine CG.consG rfl ?_
      | refine ⟨(rfl : plain _ = true), ?_⟩
      | refine ⟨(rfl : nilOk _ = some _), ?_⟩
      | refine ⟨_, ints_len (by assumption), ?_⟩
      | refine ⟨_, ints_addr (by assumption) (by omega) (by omega), ?_⟩
      | refine ⟨_, ints_load (by assumption) (by omega) (by omega), ?_⟩
      | refine ⟨(⟨by omega, by omega⟩ : inI64 _), ?_⟩
      | refine ⟨_, fun tm ha => step1_max rfl (ev_tmp ha rfl) (ev_tmp ha rfl), ?_⟩
      | refine ⟨_, fun tm ha => step1_min rfl (ev_tmp ha rfl) (ev_tmp ha rfl), ?_⟩
      | (refine ⟨fun _ => ?_, fun _ => ?_⟩ <;> first | (exfalso; omega) | skip)
      | fail
    refine ⟨(ev', i + 1), (by repeat' first | exact trivial | refine ⟨rfl, ?_⟩ | refine ⟨slot_int (by (try simp only [Int.toNat_natCast]); omega), ?_⟩), (by (try dsimp only); omega), ?_⟩
    have hsm := runT_same [ds[i]!] (runT t (ds.take i))
    refine ⟨by omega, ?_, hg9, by rw [eE]; exact hev9, by omega, fun c hc => ?_⟩
    · rw [eT]
      refine Work.frame (B1 := br) (br := br) hw8 l9 (by omega) (fun c hc => by have := (hAb c hc).2; omega) (fun i hi c hc => ?_) (Nat.le_refl _) (fun c hc => hf9 c (by omega) (by omega))
      rw [(doT_same _ _).2.1, hsame.2.1] at hi
      have := (hrb i hi c hc).2
      omega
    · rw [hf9 c (by omega) (by omega), kw8.get c (by omega) (by omega) (fun i hi h => by
        rw [hsame.2.1] at hi
        have := (hrb i hi c h).1
        omega), k7.2 c (by omega)]
      exact hfr c hc
  · have hil : i = ds.length := by omega
    subst hil
    rw [List.take_length] at hwx hev
    have hgwx := hwx.get
    have hgrx : Hx.get bq = some (Tc T0 (.slice none 0 0)) := by rw [hfr bq (by omega)]; exact hgr5
    have hoA : oneC A' = true := hwx.own.own.row.oneC.1
    repeat' first
      | refine CO.cons rfl ?_
      | refine CO.nil ?_
      | refine CV.seq ?_
      | refine CV.region callees ?_
      | refine CV.cond ?_
      | refine CV.block ?_
      | refine CV.skip ?_
      | refine CV.exit ?_
      | refine CV.ret ?_
      | refine CV.scope ?_
      | refine CV.draw callees rfl ?_
      | refine CH.cons rfl ?_
      | refine CH.nil ?_
      | refine CO.consG rfl ?_
      | refine CH.consG rfl ?_
      | refine CG.cons rfl ?_
      | refine CR.cons ?_
      | refine CR.nil ?_
      | refine CG.nil ?_
      | refine CG.consG rfl ?_
      | refine ⟨(rfl : plain _ = true), ?_⟩
      | refine ⟨(rfl : nilOk _ = some _), ?_⟩
      | refine ⟨_, ints_len (by assumption), ?_⟩
      | refine ⟨_, ints_addr (by assumption) (by omega) (by omega), ?_⟩
      | refine ⟨_, ints_load (by assumption) (by omega) (by omega), ?_⟩
      | refine ⟨(⟨by omega, by omega⟩ : inI64 _), ?_⟩
      | refine ⟨_, fun tm ha => step1_max rfl (ev_tmp ha rfl) (ev_tmp ha rfl), ?_⟩
      | refine ⟨_, fun tm ha => step1_min rfl (ev_tmp ha rfl) (ev_tmp ha rfl), ?_⟩
      | refine CV.wideR callees rfl [(0, []), (1, []), (2, []), (3, []), (4, []), (5, [4]), (6, []), (7, [])] (by kernel_rfl) ?_
      | (refine ⟨_, addrW, ?_⟩)
      | (refine ⟨_, loadT hgwx, ?_⟩)
      | (refine ⟨_, load65 hgx, ?_⟩)
      | (refine ⟨(show br ≠ bq by omega), ?_⟩)
      | (refine ⟨fun _ => ?_, fun _ => ?_⟩ <;> first | (exfalso; omega) | skip)
      | fail
    refine ⟨_, _, storeT hoA hgrx, by omega, ?_⟩
    generalize hs6 : Hx.set bq _ = H6
    have hg6 := set_get hs6
    have n6 := set_n hs6
    have k6 : Keep H H6 := keep_put kx (by omega) (set_old hs6) n6
    have x6 : KeepX bq Hx H6 := by rw [← hs6]; exact KeepX.set _ _
    have hgA : Grid H6 A' ws (runT t ds).rs := ⟨(hwx.own.own.keepX x6 hgrx).row, hwx.own.len, fun i hi => ((hwx.own.at' i hi).keepX x6 hgrx).row⟩
    repeat' first
      | refine CO.cons rfl ?_
      | refine CO.nil ?_
      | refine CV.seq ?_
      | refine CV.region callees ?_
      | refine CV.cond ?_
      | refine CV.block ?_
      | refine CV.skip ?_
      | refine CV.exit ?_
      | refine CV.ret ?_
      | refine CV.scope ?_
      | refine CV.draw callees rfl ?_
      | refine CH.cons rfl ?_
      | refine CH.nil ?_
      | refine CO.consG rfl ?_
      | refine CH.consG rfl ?_
      | refine CG.cons rfl ?_
      | refine CR.cons ?_
      | refine CR.nil ?_
      | refine CG.nil ?_
      | refine CG.consG rfl ?_
      | refine ⟨(rfl : plain _ = true), ?_⟩
      | refine ⟨(rfl : nilOk _ = some _), ?_⟩
      | refine ⟨_, ints_len (by assumption), ?_⟩
      | refine ⟨_, ints_addr (by assumption) (by omega) (by omega), ?_⟩
      | refine ⟨_, ints_load (by assumption) (by omega) (by omega), ?_⟩
      | refine ⟨(⟨by omega, by omega⟩ : inI64 _), ?_⟩
      | refine ⟨_, fun tm ha => step1_max rfl (ev_tmp ha rfl) (ev_tmp ha rfl), ?_⟩
      | refine ⟨_, fun tm ha => step1_min rfl (ev_tmp ha rfl) (ev_tmp ha rfl), ?_⟩
      | (refine ⟨fun _ => ?_, fun _ => ?_⟩ <;> first | (exfalso; omega) | skip)
      | fail
    exact ⟨_, loadT hg6, by simp only [List.all_cons, List.all_nil, hev.notTuple]; rfl, ⟨A', ws, ev, rfl, hgA, (hev.keepX x6 hgrx).low (by omega)⟩, k6⟩
end Go.Proofs.Ytcpklnekpdhlmaa
