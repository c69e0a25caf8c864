
/- Holders, as it runs. -/
import Derived.Test.YtijimplcjaeneaaGreatDoorc9z
set_option linter.unusedVariables false
set_option linter.unusedSimpArgs false
namespace Go.Proofs.YtijimplcjaeneaaGreatDoor
open Go.AI
instance (priority := 10) orc1 : Orc := ⟨fun _ => none, fun _ => false, fun _ _ _ => none, fun _ _ => rfl, fun _ _ => rfl⟩
theorem sure1 (B : Nat) : Sure Tryz.prog B := ⟨(fun f v hv => by cases hv), mixed, (wild_none fun _ => rfl)⟩
theorem zcMB : zeroCellsW Tryz.prog 106 = some [.map none] := by kernel_rfl
theorem alMB {H : Heap} : sAlloc Tryz.prog H 106 = some (.pointer (some ⟨H.n, 0, none⟩), H.new (.cells [.map none] 106 1), H.n) := alloc_ofW zcMB
theorem szMB : sizeB Tryz.prog 106 = some 1 := by kernel_rfl
theorem agMB : isAggB Tryz.prog 106 = some false := by kernel_rfl
theorem slot_intW {k : IntKind} {a b : Int} (h : a = b) : Value.int k a = Value.int k b := by rw [h]
theorem rangeK {H : Heap} {r : Nat} {es : List (Value × Value)} (hg : H.get r = some (.map es)) : arange Tryz.prog H 106 (.map (some r)) = some (.pointer (some ⟨H.n, 0, none⟩), H.new (.iter (some r) es.length [] es.length), H.n) := by
  simp only [arange, unMB, hg]
theorem entryK {H : Heap} {b r i : Nat} {seen : List Nat} {ks : List Int} (hb : H.get b = some (.iter (some r) (entK ks).length (seen ++ [i]) (entK ks).length)) (hr : H.get r = some (.map (entK ks))) (hi : i < ks.length) : aentry H (.pointer (some ⟨b, 0, none⟩)) = some (.tuple #[VI ks[i]!, .bool true]) := by
  have he : (entK ks)[i]? = some (VI ks[i]!, .bool true) := by
    unfold entK
    rw [List.getElem?_map, List.getElem?_eq_getElem hi, getElem!_pos ks i hi]; rfl
  simp only [aentry, hb, hr, he, List.getLast?_append, List.getLast?_singleton, Option.some_or, and_self, if_true, notTuple]
abbrev runK (Bw : Nat) (H : Heap) (l : List Value) (K : List Value → Heap → Prop) : Prop :=
  argsK l 0 .leaf fun L => XV Tryz.prog Bw Tryz.f20.ntmps H.n (Tryz.f20.body.getD .skip) L H fun e L' Hx => (e = .normal ∨ e = .ret) ∧ resK Tryz.prog L' Hx Tryz.f20.results.toList fun rs => K rs Hx
set_option maxHeartbeats 4000000 in
set_option maxRecDepth 100000 in
theorem holders_bad {Bw : Nat} {H : Heap} {mk lo hh d : Int} {sv : Value} {ls : List Lk} (hr : RowS 4 H sv (ls.map Lkl)) (hc : chkC mk lo hh ls ≠ 0) : runK Bw H [Chv mk lo hh sv, VI d] fun rs _ => rs = [nilS, VI (chkC mk lo hh ls)] := by
  unfold runK
  repeat' first
    | refine CO.cons rfl ?_
    | refine CO.nil ?_
    | refine XV.seq ?_
    | refine XV.cond ?_
    | refine XV.of (N := 149) (wr := false) (sure1 _) (CV.region callees ?_)
    | refine XV.of (N := 149) (wr := false) (sure1 _) (CV.draw callees (by decide +kernel) ?_)
    | refine XV.of (N := 149) (wr := false) (sure1 _) (CV.skip ?_)
    | refine XV.of (N := 149) (wr := false) (sure1 _) (CV.exit ?_)
    | refine XV.of (N := 149) (wr := false) (sure1 _) (CV.ret ?_)
    | refine CH.cons rfl ?_
    | refine CH.nil ?_
    | refine CO.consG rfl ?_
    | refine CG.cons rfl ?_
    | refine CR.cons ?_
    | refine CR.nil ?_
    | refine CG.nil ?_
    | refine ⟨(rfl : plain _ = true), ?_⟩
    | refine ⟨_, ints_len (by assumption), ?_⟩
    | refine ⟨_, ints_addr (by assumption) (by omega) (by omega), ?_⟩
    | refine ⟨_, ints_load (by assumption) (by omega) (by omega), ?_⟩
    | refine ⟨(⟨by omega, by omega⟩ : inI64 _), ?_⟩
    | refine ⟨_, fun tm ha => step1_min rfl (ev_tmp ha rfl) (ev_tmp ha rfl), ?_⟩
    | fail
    | (refine ⟨fun _ => ?_, fun _ => ?_⟩ <;> first | (exfalso; omega) | skip)
    | fail
  refine ⟨(by simp only [notTuple]), ?_⟩
  rw [boxCh hr.cells.1]
  generalize hs0 : Heap.new H _ = H0
  have hg0 := new_get hs0
  have k0 := new_keep hs0
  have n0 := new_n hs0
  obtain ⟨b0, hbn0⟩ : ∃ b, Heap.n H = b := ⟨_, rfl⟩
  rw [hbn0] at hg0 n0 ⊢
  repeat' first
    | refine CO.cons rfl ?_
    | refine CO.nil ?_
    | refine XV.seq ?_
    | refine XV.cond ?_
    | refine XV.of (N := 149) (wr := false) (sure1 _) (CV.region callees ?_)
    | refine XV.of (N := 149) (wr := false) (sure1 _) (CV.draw callees (by decide +kernel) ?_)
    | refine XV.of (N := 149) (wr := false) (sure1 _) (CV.skip ?_)
    | refine XV.of (N := 149) (wr := false) (sure1 _) (CV.exit ?_)
    | refine XV.of (N := 149) (wr := false) (sure1 _) (CV.ret ?_)
    | refine CH.cons rfl ?_
    | refine CH.nil ?_
    | refine CO.consG rfl ?_
    | refine CG.cons rfl ?_
    | refine CR.cons ?_
    | refine CR.nil ?_
    | refine CG.nil ?_
    | refine ⟨(rfl : plain _ = true), ?_⟩
    | refine ⟨_, ints_len (by assumption), ?_⟩
    | refine ⟨_, ints_addr (by assumption) (by omega) (by omega), ?_⟩
    | refine ⟨_, ints_load (by assumption) (by omega) (by omega), ?_⟩
    | refine ⟨(⟨by omega, by omega⟩ : inI64 _), ?_⟩
    | refine ⟨_, fun tm ha => step1_min rfl (ev_tmp ha rfl) (ev_tmp ha rfl), ?_⟩
    | (refine ⟨(by simp only [notTuple]), ?_⟩)
    | (refine ⟨fun _ => ?_, fun _ => ?_⟩ <;> first | (exfalso; omega) | skip)
    | fail
  generalize hs1' : anew H0 _ _ _ = H1
  have hs1 : H0.new (.cells [VI d] 3 1) = H1 := hs1'
  have hg1 := new_get hs1
  have k1 := new_keep hs1
  have n1 := new_n hs1
  obtain ⟨b1, hbn1⟩ : ∃ b, H0.n = b := ⟨_, rfl⟩
  rw [hbn1] at hg1 n1 ⊢
  have hc1 := (k1.2 b0 (by omega)).trans hg0
  repeat' first
    | refine CO.cons rfl ?_
    | refine CO.nil ?_
    | refine XV.seq ?_
    | refine XV.cond ?_
    | refine XV.of (N := 149) (wr := false) (sure1 _) (CV.region callees ?_)
    | refine XV.of (N := 149) (wr := false) (sure1 _) (CV.draw callees (by decide +kernel) ?_)
    | refine XV.of (N := 149) (wr := false) (sure1 _) (CV.skip ?_)
    | refine XV.of (N := 149) (wr := false) (sure1 _) (CV.exit ?_)
    | refine XV.of (N := 149) (wr := false) (sure1 _) (CV.ret ?_)
    | refine CH.cons rfl ?_
    | refine CH.nil ?_
    | refine CO.consG rfl ?_
    | refine CG.cons rfl ?_
    | refine CR.cons ?_
    | refine CR.nil ?_
    | refine CG.nil ?_
    | refine ⟨(rfl : plain _ = true), ?_⟩
    | refine ⟨_, ints_len (by assumption), ?_⟩
    | refine ⟨_, ints_addr (by assumption) (by omega) (by omega), ?_⟩
    | refine ⟨_, ints_load (by assumption) (by omega) (by omega), ?_⟩
    | refine ⟨(⟨by omega, by omega⟩ : inI64 _), ?_⟩
    | refine ⟨_, fun tm ha => step1_min rfl (ev_tmp ha rfl) (ev_tmp ha rfl), ?_⟩
    | (refine ⟨_, ldCh hc1, ?_⟩)
    | (refine ⟨fun _ => ?_, fun _ => ?_⟩ <;> first | (exfalso; omega) | skip)
    | fail
  refine (checkChain_spec (by omega) (hr.keep (k0.trans k1))).mono ?_
  rintro v H2 ⟨rfl, k2⟩
  repeat' first
    | refine CO.cons rfl ?_
    | refine CO.nil ?_
    | refine XV.seq ?_
    | refine XV.cond ?_
    | refine XV.of (N := 149) (wr := false) (sure1 _) (CV.region callees ?_)
    | refine XV.of (N := 149) (wr := false) (sure1 _) (CV.draw callees (by decide +kernel) ?_)
    | refine XV.of (N := 149) (wr := false) (sure1 _) (CV.skip ?_)
    | refine XV.of (N := 149) (wr := false) (sure1 _) (CV.exit ?_)
    | refine XV.of (N := 149) (wr := false) (sure1 _) (CV.ret ?_)
    | refine CH.cons rfl ?_
    | refine CH.nil ?_
    | refine CO.consG rfl ?_
    | refine CG.cons rfl ?_
    | refine CR.cons ?_
    | refine CR.nil ?_
    | refine CG.nil ?_
    | refine ⟨(rfl : plain _ = true), ?_⟩
    | refine ⟨_, ints_len (by assumption), ?_⟩
    | refine ⟨_, ints_addr (by assumption) (by omega) (by omega), ?_⟩
    | refine ⟨_, ints_load (by assumption) (by omega) (by omega), ?_⟩
    | refine ⟨(⟨by omega, by omega⟩ : inI64 _), ?_⟩
    | refine ⟨_, fun tm ha => step1_min rfl (ev_tmp ha rfl) (ev_tmp ha rfl), ?_⟩
    | fail
    | (refine ⟨fun _ => ?_, fun _ => ?_⟩ <;> first | (exfalso; omega) | skip)
    | fail
  exact ⟨.inr rfl, rfl⟩
set_option maxHeartbeats 4000000 in
set_option maxRecDepth 100000 in
theorem holders_day {Bw : Nat} {H : Heap} {mk lo hh d : Int} {sv : Value} {ls : List Lk} (hr : RowS 4 H sv (ls.map Lkl)) (hc : chkC mk lo hh ls = 0) (hd : inB d 0 100000 = false) : runK Bw H [Chv mk lo hh sv, VI d] fun rs _ => rs = [nilS, VI 2] := by
  unfold runK
  repeat' first
    | refine CO.cons rfl ?_
    | refine CO.nil ?_
    | refine XV.seq ?_
    | refine XV.cond ?_
    | refine XV.of (N := 149) (wr := false) (sure1 _) (CV.region callees ?_)
    | refine XV.of (N := 149) (wr := false) (sure1 _) (CV.draw callees (by decide +kernel) ?_)
    | refine XV.of (N := 149) (wr := false) (sure1 _) (CV.skip ?_)
    | refine XV.of (N := 149) (wr := false) (sure1 _) (CV.exit ?_)
    | refine XV.of (N := 149) (wr := false) (sure1 _) (CV.ret ?_)
    | refine CH.cons rfl ?_
    | refine CH.nil ?_
    | refine CO.consG rfl ?_
    | refine CG.cons rfl ?_
    | refine CR.cons ?_
    | refine CR.nil ?_
    | refine CG.nil ?_
    | refine ⟨(rfl : plain _ = true), ?_⟩
    | refine ⟨_, ints_len (by assumption), ?_⟩
    | refine ⟨_, ints_addr (by assumption) (by omega) (by omega), ?_⟩
    | refine ⟨_, ints_load (by assumption) (by omega) (by omega), ?_⟩
    | refine ⟨(⟨by omega, by omega⟩ : inI64 _), ?_⟩
    | refine ⟨_, fun tm ha => step1_min rfl (ev_tmp ha rfl) (ev_tmp ha rfl), ?_⟩
    | fail
    | (refine ⟨fun _ => ?_, fun _ => ?_⟩ <;> first | (exfalso; omega) | skip)
    | fail
  refine ⟨(by simp only [notTuple]), ?_⟩
  rw [boxCh hr.cells.1]
  generalize hs0 : Heap.new H _ = H0
  have hg0 := new_get hs0
  have k0 := new_keep hs0
  have n0 := new_n hs0
  obtain ⟨b0, hbn0⟩ : ∃ b, Heap.n H = b := ⟨_, rfl⟩
  rw [hbn0] at hg0 n0 ⊢
  repeat' first
    | refine CO.cons rfl ?_
    | refine CO.nil ?_
    | refine XV.seq ?_
    | refine XV.cond ?_
    | refine XV.of (N := 149) (wr := false) (sure1 _) (CV.region callees ?_)
    | refine XV.of (N := 149) (wr := false) (sure1 _) (CV.draw callees (by decide +kernel) ?_)
    | refine XV.of (N := 149) (wr := false) (sure1 _) (CV.skip ?_)
    | refine XV.of (N := 149) (wr := false) (sure1 _) (CV.exit ?_)
    | refine XV.of (N := 149) (wr := false) (sure1 _) (CV.ret ?_)
    | refine CH.cons rfl ?_
    | refine CH.nil ?_
    | refine CO.consG rfl ?_
    | refine CG.cons rfl ?_
    | refine CR.cons ?_
    | refine CR.nil ?_
    | refine CG.nil ?_
    | refine ⟨(rfl : plain _ = true), ?_⟩
    | refine ⟨_, ints_len (by assumption), ?_⟩
    | refine ⟨_, ints_addr (by assumption) (by omega) (by omega), ?_⟩
    | refine ⟨_, ints_load (by assumption) (by omega) (by omega), ?_⟩
    | refine ⟨(⟨by omega, by omega⟩ : inI64 _), ?_⟩
    | refine ⟨_, fun tm ha => step1_min rfl (ev_tmp ha rfl) (ev_tmp ha rfl), ?_⟩
    | (refine ⟨(by simp only [notTuple]), ?_⟩)
    | (refine ⟨fun _ => ?_, fun _ => ?_⟩ <;> first | (exfalso; omega) | skip)
    | fail
  generalize hs1' : anew H0 _ _ _ = H1
  have hs1 : H0.new (.cells [VI d] 3 1) = H1 := hs1'
  have hg1 := new_get hs1
  have k1 := new_keep hs1
  have n1 := new_n hs1
  obtain ⟨b1, hbn1⟩ : ∃ b, H0.n = b := ⟨_, rfl⟩
  rw [hbn1] at hg1 n1 ⊢
  have hc1 := (k1.2 b0 (by omega)).trans hg0
  repeat' first
    | refine CO.cons rfl ?_
    | refine CO.nil ?_
    | refine XV.seq ?_
    | refine XV.cond ?_
    | refine XV.of (N := 149) (wr := false) (sure1 _) (CV.region callees ?_)
    | refine XV.of (N := 149) (wr := false) (sure1 _) (CV.draw callees (by decide +kernel) ?_)
    | refine XV.of (N := 149) (wr := false) (sure1 _) (CV.skip ?_)
    | refine XV.of (N := 149) (wr := false) (sure1 _) (CV.exit ?_)
    | refine XV.of (N := 149) (wr := false) (sure1 _) (CV.ret ?_)
    | refine CH.cons rfl ?_
    | refine CH.nil ?_
    | refine CO.consG rfl ?_
    | refine CG.cons rfl ?_
    | refine CR.cons ?_
    | refine CR.nil ?_
    | refine CG.nil ?_
    | refine ⟨(rfl : plain _ = true), ?_⟩
    | refine ⟨_, ints_len (by assumption), ?_⟩
    | refine ⟨_, ints_addr (by assumption) (by omega) (by omega), ?_⟩
    | refine ⟨_, ints_load (by assumption) (by omega) (by omega), ?_⟩
    | refine ⟨(⟨by omega, by omega⟩ : inI64 _), ?_⟩
    | refine ⟨_, fun tm ha => step1_min rfl (ev_tmp ha rfl) (ev_tmp ha rfl), ?_⟩
    | (refine ⟨_, ldCh hc1, ?_⟩)
    | (refine ⟨fun _ => ?_, fun _ => ?_⟩ <;> first | (exfalso; omega) | skip)
    | fail
  refine (checkChain_spec (by omega) (hr.keep (k0.trans k1))).mono ?_
  rw [hc]
  rintro v H2 ⟨rfl, k2⟩
  have l2 := k2.1
  have hd2 := (k2.2 b1 (by omega)).trans hg1
  repeat' first
    | refine CO.cons rfl ?_
    | refine CO.nil ?_
    | refine XV.seq ?_
    | refine XV.cond ?_
    | refine XV.of (N := 149) (wr := false) (sure1 _) (CV.region callees ?_)
    | refine XV.of (N := 149) (wr := false) (sure1 _) (CV.draw callees (by decide +kernel) ?_)
    | refine XV.of (N := 149) (wr := false) (sure1 _) (CV.skip ?_)
    | refine XV.of (N := 149) (wr := false) (sure1 _) (CV.exit ?_)
    | refine XV.of (N := 149) (wr := false) (sure1 _) (CV.ret ?_)
    | refine CH.cons rfl ?_
    | refine CH.nil ?_
    | refine CO.consG rfl ?_
    | refine CG.cons rfl ?_
    | refine CR.cons ?_
    | refine CR.nil ?_
    | refine CG.nil ?_
    | refine ⟨(rfl : plain _ = true), ?_⟩
    | refine ⟨_, ints_len (by assumption), ?_⟩
    | refine ⟨_, ints_addr (by assumption) (by omega) (by omega), ?_⟩
    | refine ⟨_, ints_load (by assumption) (by omega) (by omega), ?_⟩
    | refine ⟨(⟨by omega, by omega⟩ : inI64 _), ?_⟩
    | refine ⟨_, fun tm ha => step1_min rfl (ev_tmp ha rfl) (ev_tmp ha rfl), ?_⟩
    | (refine ⟨_, cell_load ag3 hd2 rfl, ?_⟩)
    | (refine ⟨fun _ => ?_, fun _ => ?_⟩ <;> first | (exfalso; omega) | skip)
    | fail
  refine (isDay_spec (by omega)).mono ?_
  rw [hd]
  rintro v H3 ⟨rfl, rfl⟩
  repeat' first
    | refine CO.cons rfl ?_
    | refine CO.nil ?_
    | refine XV.seq ?_
    | refine XV.cond ?_
    | refine XV.of (N := 149) (wr := false) (sure1 _) (CV.region callees ?_)
    | refine XV.of (N := 149) (wr := false) (sure1 _) (CV.draw callees (by decide +kernel) ?_)
    | refine XV.of (N := 149) (wr := false) (sure1 _) (CV.skip ?_)
    | refine XV.of (N := 149) (wr := false) (sure1 _) (CV.exit ?_)
    | refine XV.of (N := 149) (wr := false) (sure1 _) (CV.ret ?_)
    | refine CH.cons rfl ?_
    | refine CH.nil ?_
    | refine CO.consG rfl ?_
    | refine CG.cons rfl ?_
    | refine CR.cons ?_
    | refine CR.nil ?_
    | refine CG.nil ?_
    | refine ⟨(rfl : plain _ = true), ?_⟩
    | refine ⟨_, ints_len (by assumption), ?_⟩
    | refine ⟨_, ints_addr (by assumption) (by omega) (by omega), ?_⟩
    | refine ⟨_, ints_load (by assumption) (by omega) (by omega), ?_⟩
    | refine ⟨(⟨by omega, by omega⟩ : inI64 _), ?_⟩
    | refine ⟨_, fun tm ha => step1_min rfl (ev_tmp ha rfl) (ev_tmp ha rfl), ?_⟩
    | fail
    | (refine ⟨fun _ => ?_, fun _ => ?_⟩ <;> first | (exfalso; omega) | skip)
    | fail
  exact ⟨.inr rfl, rfl⟩
set_option maxHeartbeats 16000000 in
set_option maxRecDepth 100000 in
theorem holders_run {Bw : Nat} {H : Heap} {mk lo hh d : Int} {sv : Value} {ls : List Lk} (hr : RowS 4 H sv (ls.map Lkl)) (hc : chkC mk lo hh ls = 0) (hd : inB d 0 100000 = true) : runK Bw H [Chv mk lo hh sv, VI d] fun rs Hx => ∃ b, rs = [.slice (some ⟨b, 0, none⟩) (hoL mk lo hh ls d).length 0, VI 0] ∧ H.n ≤ b ∧ Hx.get b = some (.cells ((hoL mk lo hh ls d).map VI) 3 2) := by
  have hk := chOk_of hc
  have hls := hk.ok
  have hkl := keys_len (d := d) hc
  have hho := fun R => hoL_of (d := d) (R := R) hc
  unfold runK
  repeat' first
    | refine CO.cons rfl ?_
    | refine CO.nil ?_
    | refine XV.seq ?_
    | refine XV.cond ?_
    | refine XV.of (N := 149) (wr := false) (sure1 _) (CV.region callees ?_)
    | refine XV.of (N := 149) (wr := false) (sure1 _) (CV.draw callees (by decide +kernel) ?_)
    | refine XV.of (N := 149) (wr := false) (sure1 _) (CV.skip ?_)
    | refine XV.of (N := 149) (wr := false) (sure1 _) (CV.exit ?_)
    | refine XV.of (N := 149) (wr := false) (sure1 _) (CV.ret ?_)
    | refine CH.cons rfl ?_
    | refine CH.nil ?_
    | refine CO.consG rfl ?_
    | refine CG.cons rfl ?_
    | refine CR.cons ?_
    | refine CR.nil ?_
    | refine CG.nil ?_
    | refine ⟨(rfl : plain _ = true), ?_⟩
    | refine ⟨_, ints_len (by assumption), ?_⟩
    | refine ⟨_, ints_addr (by assumption) (by omega) (by omega), ?_⟩
    | refine ⟨_, ints_load (by assumption) (by omega) (by omega), ?_⟩
    | refine ⟨(⟨by omega, by omega⟩ : inI64 _), ?_⟩
    | refine ⟨_, fun tm ha => step1_min rfl (ev_tmp ha rfl) (ev_tmp ha rfl), ?_⟩
    | fail
    | (refine ⟨fun _ => ?_, fun _ => ?_⟩ <;> first | (exfalso; omega) | skip)
    | fail
  refine ⟨(by simp only [notTuple]), ?_⟩
  rw [boxCh hr.cells.1]
  generalize hs0 : Heap.new H _ = H0
  have hg0 := new_get hs0
  have k0 := new_keep hs0
  have n0 := new_n hs0
  obtain ⟨b0, hbn0⟩ : ∃ b, Heap.n H = b := ⟨_, rfl⟩
  rw [hbn0] at hg0 n0 ⊢
  repeat' first
    | refine CO.cons rfl ?_
    | refine CO.nil ?_
    | refine XV.seq ?_
    | refine XV.cond ?_
    | refine XV.of (N := 149) (wr := false) (sure1 _) (CV.region callees ?_)
    | refine XV.of (N := 149) (wr := false) (sure1 _) (CV.draw callees (by decide +kernel) ?_)
    | refine XV.of (N := 149) (wr := false) (sure1 _) (CV.skip ?_)
    | refine XV.of (N := 149) (wr := false) (sure1 _) (CV.exit ?_)
    | refine XV.of (N := 149) (wr := false) (sure1 _) (CV.ret ?_)
    | refine CH.cons rfl ?_
    | refine CH.nil ?_
    | refine CO.consG rfl ?_
    | refine CG.cons rfl ?_
    | refine CR.cons ?_
    | refine CR.nil ?_
    | refine CG.nil ?_
    | refine ⟨(rfl : plain _ = true), ?_⟩
    | refine ⟨_, ints_len (by assumption), ?_⟩
    | refine ⟨_, ints_addr (by assumption) (by omega) (by omega), ?_⟩
    | refine ⟨_, ints_load (by assumption) (by omega) (by omega), ?_⟩
    | refine ⟨(⟨by omega, by omega⟩ : inI64 _), ?_⟩
    | refine ⟨_, fun tm ha => step1_min rfl (ev_tmp ha rfl) (ev_tmp ha rfl), ?_⟩
    | (refine ⟨(by simp only [notTuple]), ?_⟩)
    | (refine ⟨fun _ => ?_, fun _ => ?_⟩ <;> first | (exfalso; omega) | skip)
    | fail
  generalize hs1' : anew H0 _ _ _ = H1
  have hs1 : H0.new (.cells [VI d] 3 1) = H1 := hs1'
  have hg1 := new_get hs1
  have k1 := new_keep hs1
  have n1 := new_n hs1
  obtain ⟨b1, hbn1⟩ : ∃ b, H0.n = b := ⟨_, rfl⟩
  rw [hbn1] at hg1 n1 ⊢
  have hc1 := (k1.2 b0 (by omega)).trans hg0
  repeat' first
    | refine CO.cons rfl ?_
    | refine CO.nil ?_
    | refine XV.seq ?_
    | refine XV.cond ?_
    | refine XV.of (N := 149) (wr := false) (sure1 _) (CV.region callees ?_)
    | refine XV.of (N := 149) (wr := false) (sure1 _) (CV.draw callees (by decide +kernel) ?_)
    | refine XV.of (N := 149) (wr := false) (sure1 _) (CV.skip ?_)
    | refine XV.of (N := 149) (wr := false) (sure1 _) (CV.exit ?_)
    | refine XV.of (N := 149) (wr := false) (sure1 _) (CV.ret ?_)
    | refine CH.cons rfl ?_
    | refine CH.nil ?_
    | refine CO.consG rfl ?_
    | refine CG.cons rfl ?_
    | refine CR.cons ?_
    | refine CR.nil ?_
    | refine CG.nil ?_
    | refine ⟨(rfl : plain _ = true), ?_⟩
    | refine ⟨_, ints_len (by assumption), ?_⟩
    | refine ⟨_, ints_addr (by assumption) (by omega) (by omega), ?_⟩
    | refine ⟨_, ints_load (by assumption) (by omega) (by omega), ?_⟩
    | refine ⟨(⟨by omega, by omega⟩ : inI64 _), ?_⟩
    | refine ⟨_, fun tm ha => step1_min rfl (ev_tmp ha rfl) (ev_tmp ha rfl), ?_⟩
    | (refine ⟨_, ldCh hc1, ?_⟩)
    | (refine ⟨fun _ => ?_, fun _ => ?_⟩ <;> first | (exfalso; omega) | skip)
    | fail
  refine (checkChain_spec (by omega) (hr.keep (k0.trans k1))).mono ?_
  rw [hc]
  rintro v H2 ⟨rfl, k2⟩
  have l2 := k2.1
  have hd2 := (k2.2 b1 (by omega)).trans hg1
  have hc2 := (k2.2 b0 (by omega)).trans hc1
  repeat' first
    | refine CO.cons rfl ?_
    | refine CO.nil ?_
    | refine XV.seq ?_
    | refine XV.cond ?_
    | refine XV.of (N := 149) (wr := false) (sure1 _) (CV.region callees ?_)
    | refine XV.of (N := 149) (wr := false) (sure1 _) (CV.draw callees (by decide +kernel) ?_)
    | refine XV.of (N := 149) (wr := false) (sure1 _) (CV.skip ?_)
    | refine XV.of (N := 149) (wr := false) (sure1 _) (CV.exit ?_)
    | refine XV.of (N := 149) (wr := false) (sure1 _) (CV.ret ?_)
    | refine CH.cons rfl ?_
    | refine CH.nil ?_
    | refine CO.consG rfl ?_
    | refine CG.cons rfl ?_
    | refine CR.cons ?_
    | refine CR.nil ?_
    | refine CG.nil ?_
    | refine ⟨(rfl : plain _ = true), ?_⟩
    | refine ⟨_, ints_len (by assumption), ?_⟩
    | refine ⟨_, ints_addr (by assumption) (by omega) (by omega), ?_⟩
    | refine ⟨_, ints_load (by assumption) (by omega) (by omega), ?_⟩
    | refine ⟨(⟨by omega, by omega⟩ : inI64 _), ?_⟩
    | refine ⟨_, fun tm ha => step1_min rfl (ev_tmp ha rfl) (ev_tmp ha rfl), ?_⟩
    | (refine ⟨_, cell_load ag3 hd2 rfl, ?_⟩)
    | (refine ⟨fun _ => ?_, fun _ => ?_⟩ <;> first | (exfalso; omega) | skip)
    | fail
  refine (isDay_spec (by omega)).mono ?_
  rw [hd]
  rintro v H3 ⟨rfl, rfl⟩
  repeat' first
    | refine CO.cons rfl ?_
    | refine CO.nil ?_
    | refine XV.seq ?_
    | refine XV.cond ?_
    | refine XV.of (N := 149) (wr := false) (sure1 _) (CV.region callees ?_)
    | refine XV.of (N := 149) (wr := false) (sure1 _) (CV.draw callees (by decide +kernel) ?_)
    | refine XV.of (N := 149) (wr := false) (sure1 _) (CV.skip ?_)
    | refine XV.of (N := 149) (wr := false) (sure1 _) (CV.exit ?_)
    | refine XV.of (N := 149) (wr := false) (sure1 _) (CV.ret ?_)
    | refine CH.cons rfl ?_
    | refine CH.nil ?_
    | refine CO.consG rfl ?_
    | refine CG.cons rfl ?_
    | refine CR.cons ?_
    | refine CR.nil ?_
    | refine CG.nil ?_
    | refine ⟨(rfl : plain _ = true), ?_⟩
    | refine ⟨_, ints_len (by assumption), ?_⟩
    | refine ⟨_, ints_addr (by assumption) (by omega) (by omega), ?_⟩
    | refine ⟨_, ints_load (by assumption) (by omega) (by omega), ?_⟩
    | refine ⟨(⟨by omega, by omega⟩ : inI64 _), ?_⟩
    | refine ⟨_, fun tm ha => step1_min rfl (ev_tmp ha rfl) (ev_tmp ha rfl), ?_⟩
    | fail
    | (refine ⟨fun _ => ?_, fun _ => ?_⟩ <;> first | (exfalso; omega) | skip)
    | fail
  generalize hs4 : Heap.new H3 (.map []) = H4
  have hg4 := new_get hs4
  have k4 := new_keep hs4
  have n4 := new_n hs4
  obtain ⟨r, hr4⟩ : ∃ r, H3.n = r := ⟨_, rfl⟩
  rw [hr4] at hg4 n4 ⊢
  repeat' first
    | refine CO.cons rfl ?_
    | refine CO.nil ?_
    | refine XV.seq ?_
    | refine XV.cond ?_
    | refine XV.of (N := 149) (wr := false) (sure1 _) (CV.region callees ?_)
    | refine XV.of (N := 149) (wr := false) (sure1 _) (CV.draw callees (by decide +kernel) ?_)
    | refine XV.of (N := 149) (wr := false) (sure1 _) (CV.skip ?_)
    | refine XV.of (N := 149) (wr := false) (sure1 _) (CV.exit ?_)
    | refine XV.of (N := 149) (wr := false) (sure1 _) (CV.ret ?_)
    | refine CH.cons rfl ?_
    | refine CH.nil ?_
    | refine CO.consG rfl ?_
    | refine CG.cons rfl ?_
    | refine CR.cons ?_
    | refine CR.nil ?_
    | refine CG.nil ?_
    | refine ⟨(rfl : plain _ = true), ?_⟩
    | refine ⟨_, ints_len (by assumption), ?_⟩
    | refine ⟨_, ints_addr (by assumption) (by omega) (by omega), ?_⟩
    | refine ⟨_, ints_load (by assumption) (by omega) (by omega), ?_⟩
    | refine ⟨(⟨by omega, by omega⟩ : inI64 _), ?_⟩
    | refine ⟨_, fun tm ha => step1_min rfl (ev_tmp ha rfl) (ev_tmp ha rfl), ?_⟩
    | (refine ⟨_, _, alMB, ?_⟩)
    | (refine ⟨fun _ => ?_, fun _ => ?_⟩ <;> first | (exfalso; omega) | skip)
    | fail
  generalize hs5 : Heap.new H4 _ = H5
  have hg5 := new_get hs5
  have k5 := new_keep hs5
  have n5 := new_n hs5
  obtain ⟨b5, hbn5⟩ : ∃ b, Heap.n H4 = b := ⟨_, rfl⟩
  rw [hbn5] at hg5 n5 ⊢
  repeat' first
    | refine CO.cons rfl ?_
    | refine CO.nil ?_
    | refine XV.seq ?_
    | refine XV.cond ?_
    | refine XV.of (N := 149) (wr := false) (sure1 _) (CV.region callees ?_)
    | refine XV.of (N := 149) (wr := false) (sure1 _) (CV.draw callees (by decide +kernel) ?_)
    | refine XV.of (N := 149) (wr := false) (sure1 _) (CV.skip ?_)
    | refine XV.of (N := 149) (wr := false) (sure1 _) (CV.exit ?_)
    | refine XV.of (N := 149) (wr := false) (sure1 _) (CV.ret ?_)
    | refine CH.cons rfl ?_
    | refine CH.nil ?_
    | refine CO.consG rfl ?_
    | refine CG.cons rfl ?_
    | refine CR.cons ?_
    | refine CR.nil ?_
    | refine CG.nil ?_
    | refine ⟨(rfl : plain _ = true), ?_⟩
    | refine ⟨_, ints_len (by assumption), ?_⟩
    | refine ⟨_, ints_addr (by assumption) (by omega) (by omega), ?_⟩
    | refine ⟨_, ints_load (by assumption) (by omega) (by omega), ?_⟩
    | refine ⟨(⟨by omega, by omega⟩ : inI64 _), ?_⟩
    | refine ⟨_, fun tm ha => step1_min rfl (ev_tmp ha rfl) (ev_tmp ha rfl), ?_⟩
    | fail
    | (refine ⟨fun _ => ?_, fun _ => ?_⟩ <;> first | (exfalso; omega) | skip)
    | fail
  refine ⟨_, _, var_store szMB hg5 rfl, by omega, ?_⟩
  generalize hs6 : Heap.set H5 b5 _ = H6
  have hg6 : H6.get b5 = some (.cells ([.map (some r)]) 106 1) := set_get hs6
  have n6 := set_n hs6
  have o6 := set_old hs6
  have k6 : Keep H4 H6 := keep_put k5 (by omega) o6 n6
  have k36 : Keep H3 H6 := k4.trans k6
  have l36 := k36.1
  have hc6 := (k36.2 b0 (by omega)).trans hc2
  have hd6 := (k36.2 b1 (by omega)).trans hd2
  have hr6 : H6.get r = some (.map []) := (k6.2 r (by omega)).trans hg4
  repeat' first
    | refine CO.cons rfl ?_
    | refine CO.nil ?_
    | refine XV.seq ?_
    | refine XV.cond ?_
    | refine XV.of (N := 149) (wr := false) (sure1 _) (CV.region callees ?_)
    | refine XV.of (N := 149) (wr := false) (sure1 _) (CV.draw callees (by decide +kernel) ?_)
    | refine XV.of (N := 149) (wr := false) (sure1 _) (CV.skip ?_)
    | refine XV.of (N := 149) (wr := false) (sure1 _) (CV.exit ?_)
    | refine XV.of (N := 149) (wr := false) (sure1 _) (CV.ret ?_)
    | refine CH.cons rfl ?_
    | refine CH.nil ?_
    | refine CO.consG rfl ?_
    | refine CG.cons rfl ?_
    | refine CR.cons ?_
    | refine CR.nil ?_
    | refine CG.nil ?_
    | refine ⟨(rfl : plain _ = true), ?_⟩
    | refine ⟨_, ints_len (by assumption), ?_⟩
    | refine ⟨_, ints_addr (by assumption) (by omega) (by omega), ?_⟩
    | refine ⟨_, ints_load (by assumption) (by omega) (by omega), ?_⟩
    | refine ⟨(⟨by omega, by omega⟩ : inI64 _), ?_⟩
    | refine ⟨_, fun tm ha => step1_min rfl (ev_tmp ha rfl) (ev_tmp ha rfl), ?_⟩
    | (refine ⟨_, ldCh hc6, ?_⟩)
    | (refine ⟨fun _ => ?_, fun _ => ?_⟩ <;> first | (exfalso; omega) | skip)
    | fail
  refine (orders_spec (by omega) hr.cells.1).mono ?_
  rintro v H7 ⟨⟨c, rfl, hcc, hcc2, hcc3⟩, k7⟩
  have l7 := k7.1
  repeat' first
    | refine CO.cons rfl ?_
    | refine CO.nil ?_
    | refine XV.seq ?_
    | refine XV.cond ?_
    | refine XV.of (N := 149) (wr := false) (sure1 _) (CV.region callees ?_)
    | refine XV.of (N := 149) (wr := false) (sure1 _) (CV.draw callees (by decide +kernel) ?_)
    | refine XV.of (N := 149) (wr := false) (sure1 _) (CV.skip ?_)
    | refine XV.of (N := 149) (wr := false) (sure1 _) (CV.exit ?_)
    | refine XV.of (N := 149) (wr := false) (sure1 _) (CV.ret ?_)
    | refine CH.cons rfl ?_
    | refine CH.nil ?_
    | refine CO.consG rfl ?_
    | refine CG.cons rfl ?_
    | refine CR.cons ?_
    | refine CR.nil ?_
    | refine CG.nil ?_
    | refine ⟨(rfl : plain _ = true), ?_⟩
    | refine ⟨_, ints_len (by assumption), ?_⟩
    | refine ⟨_, ints_addr (by assumption) (by omega) (by omega), ?_⟩
    | refine ⟨_, ints_load (by assumption) (by omega) (by omega), ?_⟩
    | refine ⟨(⟨by omega, by omega⟩ : inI64 _), ?_⟩
    | refine ⟨_, fun tm ha => step1_min rfl (ev_tmp ha rfl) (ev_tmp ha rfl), ?_⟩
    | fail
    | (refine ⟨fun _ => ?_, fun _ => ?_⟩ <;> first | (exfalso; omega) | skip)
    | fail
  refine XV.of (N := 149) (wr := false) (sure1 _) ?_
  repeat' first
    | refine CO.cons rfl ?_
    | refine CO.nil ?_
    | refine CV.seq ?_
    | refine CV.region callees ?_
    | refine CV.cond ?_
    | refine CV.block ?_
    | refine CV.skip ?_
    | refine CV.exit ?_
    | refine CV.ret ?_
    | refine CV.scope ?_
    | refine CV.draw callees (by decide +kernel) ?_
    | refine CH.cons rfl ?_
    | refine CH.nil ?_
    | refine CO.consG rfl ?_
    | refine CH.consG rfl ?_
    | refine CG.cons rfl ?_
    | refine CR.cons ?_
    | refine CR.nil ?_
    | refine CG.nil ?_
    | refine CG.consG rfl ?_
    | refine ⟨(rfl : plain _ = true), ?_⟩
    | refine ⟨(rfl : nilOk _ = some _), ?_⟩
    | refine ⟨_, ints_len (by assumption), ?_⟩
    | refine ⟨_, ints_addr (by assumption) (by omega) (by omega), ?_⟩
    | refine ⟨_, ints_load (by assumption) (by omega) (by omega), ?_⟩
    | refine ⟨(⟨by omega, by omega⟩ : inI64 _), ?_⟩
    | refine ⟨_, fun tm ha => step1_max rfl (ev_tmp ha rfl) (ev_tmp ha rfl), ?_⟩
    | refine ⟨_, fun tm ha => step1_min rfl (ev_tmp ha rfl) (ev_tmp ha rfl), ?_⟩
    | (refine ⟨fun _ => ?_, fun _ => ?_⟩ <;> first | (exfalso; omega) | skip)
    | fail
  refine CV.rangeFunc callees ?_
  refine fun tm ha => ?_
  generalize hs8 : Heap.new H7 _ = H8
  have hg8 := new_get hs8
  have k8 := new_keep hs8
  have n8 := new_n hs8
  obtain ⟨l, hl⟩ : ∃ l, H7.n = l := ⟨_, rfl⟩
  rw [hl] at hg8 n8 ⊢
  have k68 : Keep H6 H8 := k7.trans k8
  have l68 := k68.1
  have k08 : Keep H H8 := ((((k0.trans k1).trans k2).trans k36).trans k68)
  have hcc8 := (k8.2 c (by omega)).trans hcc
  have hc8 := (k68.2 b0 (by omega)).trans hc6
  have hd8 := (k68.2 b1 (by omega)).trans hd6
  have hr8 := (k68.2 r (by omega)).trans hr6
  have hm8 := (k68.2 b5 (by omega)).trans hg6
  refine (orders1_spec (B := b0) (l := l) (c := c) (mk := mk) (lo := lo) (hi := hh) (sv := sv) (ls := ls)
    (fun S q X => X.get l = H8.get l ∧ X.get r = some (.map (entK (keysF mk lo hh ls d S))) ∧ X.get b5 = H8.get b5 ∧ X.get b0 = H8.get b0 ∧ X.get b1 = H8.get b1 ∧ X.get c = H8.get c ∧ Keep H X ∧ H8.n ≤ X.n ∧ H8.n ≤ q)
    (fun X => False)
    (by omega) (by omega) hls hk.l0 (by have := hk.l1; have := hk.h1; omega) hcc8 (hr.keep k08) ?_ ?_ ?_ ?_).mono ?_
  · intro X kk h2
    exact ⟨kk.2 l (by omega), (kk.2 r (by omega)).trans hr8, kk.2 b5 (by omega), kk.2 b0 (by omega), kk.2 b1 (by omega), kk.2 c (by omega), k08.trans kk, kk.1, by omega⟩
  · rintro S q X ⟨q1, q2, q3, q4, q5, q6, q7, q8, q9⟩
    exact ⟨q6.trans hcc8, hr.keep q7⟩
  · rintro S q q' X X' ⟨q1, q2, q3, q4, q5, q6, q7, q8, q9⟩ h2 h3 h4
    exact ⟨(h3 l (by omega) (by omega) (by omega)).trans q1, (h3 r (by omega) (by omega) (by omega)).trans q2, (h3 b5 (by omega) (by omega) (by omega)).trans q3, (h3 b0 (by omega) (by omega) (by omega)).trans q4, (h3 b1 (by omega) (by omega) (by omega)).trans q5, (h3 c (by omega) (by omega) (by omega)).trans q6, ⟨by have := q7.1; omega, fun p hp => (h3 p (by have := q7.1; omega) (by omega) (by omega)).trans (q7.2 p hp)⟩, by omega, by omega⟩
  · rintro S o q X hpre ⟨q1, q2, q3, q4, q5, q6, q7, q8, q9⟩ hM hBX hX
    obtain ⟨ho1, ho2, ho3⟩ := orders_mem.1 (hpre.subset (show o ∈ S ++ [o] by simp))
    have ho7 := hls.n
    have hkn := hk.l1
    have hkh := hk.h1
    have hkl0 := hk.l0
    refine RoundB.enter callees false (q1.trans hg8) ha rfl hBX (by omega) ?_
    repeat' first
      | refine CO.cons rfl ?_
      | refine CO.nil ?_
      | refine CV.seq ?_
      | refine CV.region callees ?_
      | refine CV.cond ?_
      | refine CV.block ?_
      | refine CV.skip ?_
      | refine CV.exit ?_
      | refine CV.ret ?_
      | refine CV.scope ?_
      | refine CV.draw callees (by decide +kernel) ?_
      | refine CH.cons rfl ?_
      | refine CH.nil ?_
      | refine CO.consG rfl ?_
      | refine CH.consG rfl ?_
      | refine CG.cons rfl ?_
      | refine CR.cons ?_
      | refine CR.nil ?_
      | refine CG.nil ?_
      | refine CG.consG rfl ?_
      | refine ⟨(rfl : plain _ = true), ?_⟩
      | refine ⟨(rfl : nilOk _ = some _), ?_⟩
      | refine ⟨_, ints_len (by assumption), ?_⟩
      | refine ⟨_, ints_addr (by assumption) (by omega) (by omega), ?_⟩
      | refine ⟨_, ints_load (by assumption) (by omega) (by omega), ?_⟩
      | refine ⟨(⟨by omega, by omega⟩ : inI64 _), ?_⟩
      | refine ⟨_, fun tm ha => step1_max rfl (ev_tmp ha rfl) (ev_tmp ha rfl), ?_⟩
      | refine ⟨_, fun tm ha => step1_min rfl (ev_tmp ha rfl) (ev_tmp ha rfl), ?_⟩
      | (refine ⟨fun _ => ?_, fun _ => ?_⟩ <;> first | (exfalso; omega) | skip)
      | fail
    refine ⟨_, _, _, _, _, q1.trans hg8, ?_⟩
    generalize hs9 : X.set l _ = X1
    have hg9 := set_get hs9
    have n9 := set_n hs9
    have o9 := set_old hs9
    have hmx : X1.get b5 = some (.cells [.map (some r)] 106 1) := (o9 b5 (by omega)).trans (q3.trans hm8)
    have hcx : X1.get b0 = some (.cells (Chl mk lo hh sv) 26 1) := (o9 b0 (by omega)).trans (q4.trans hc8)
    have hdx : X1.get b1 = some (.cells [VI d] 3 1) := (o9 b1 (by omega)).trans (q5.trans hd8)
    have hrx : X1.get r = some (.map (entK (keysF mk lo hh ls d S))) := (o9 r (by omega)).trans q2
    have kx1 : Keep H X1 := ⟨by have := q7.1; omega, fun p hp => (o9 p (by omega)).trans (q7.2 p hp)⟩
    have hqn := hM.lt
    obtain ⟨cs, hp1, hp2⟩ := hM.p
    have hrow : Ints X1 (pile q o.length) o := pile_row ((o9 q (by omega)).trans hp1) hp2 (by omega)
    repeat' first
      | refine CO.cons rfl ?_
      | refine CO.nil ?_
      | refine CV.seq ?_
      | refine CV.region callees ?_
      | refine CV.cond ?_
      | refine CV.block ?_
      | refine CV.skip ?_
      | refine CV.exit ?_
      | refine CV.ret ?_
      | refine CV.scope ?_
      | refine CV.draw callees (by decide +kernel) ?_
      | refine CH.cons rfl ?_
      | refine CH.nil ?_
      | refine CO.consG rfl ?_
      | refine CH.consG rfl ?_
      | refine CG.cons rfl ?_
      | refine CR.cons ?_
      | refine CR.nil ?_
      | refine CG.nil ?_
      | refine CG.consG rfl ?_
      | refine ⟨(rfl : plain _ = true), ?_⟩
      | refine ⟨(rfl : nilOk _ = some _), ?_⟩
      | refine ⟨_, ints_len (by assumption), ?_⟩
      | refine ⟨_, ints_addr (by assumption) (by omega) (by omega), ?_⟩
      | refine ⟨_, ints_load (by assumption) (by omega) (by omega), ?_⟩
      | refine ⟨(⟨by omega, by omega⟩ : inI64 _), ?_⟩
      | refine ⟨_, fun tm ha => step1_max rfl (ev_tmp ha rfl) (ev_tmp ha rfl), ?_⟩
      | refine ⟨_, fun tm ha => step1_min rfl (ev_tmp ha rfl) (ev_tmp ha rfl), ?_⟩
      | (refine ⟨fun _ => ?_, fun _ => ?_⟩ <;> first | (exfalso; omega) | skip)
      | fail
    refine CV.tl callees rfl [0, 1, 2, 4, 3] (by kernel_rfl) ?_
    repeat' first
      | refine CO.cons rfl ?_
      | refine CO.nil ?_
      | refine CV.seq ?_
      | refine CV.region callees ?_
      | refine CV.cond ?_
      | refine CV.block ?_
      | refine CV.skip ?_
      | refine CV.exit ?_
      | refine CV.ret ?_
      | refine CV.scope ?_
      | refine CV.draw callees (by decide +kernel) ?_
      | refine CH.cons rfl ?_
      | refine CH.nil ?_
      | refine CO.consG rfl ?_
      | refine CH.consG rfl ?_
      | refine CG.cons rfl ?_
      | refine CR.cons ?_
      | refine CR.nil ?_
      | refine CG.nil ?_
      | refine CG.consG rfl ?_
      | refine ⟨(rfl : plain _ = true), ?_⟩
      | refine ⟨(rfl : nilOk _ = some _), ?_⟩
      | refine ⟨_, ints_len (by assumption), ?_⟩
      | refine ⟨_, ints_addr (by assumption) (by omega) (by omega), ?_⟩
      | refine ⟨_, ints_load (by assumption) (by omega) (by omega), ?_⟩
      | refine ⟨(⟨by omega, by omega⟩ : inI64 _), ?_⟩
      | refine ⟨_, fun tm ha => step1_max rfl (ev_tmp ha rfl) (ev_tmp ha rfl), ?_⟩
      | refine ⟨_, fun tm ha => step1_min rfl (ev_tmp ha rfl) (ev_tmp ha rfl), ?_⟩
      | (refine ⟨_, cell_load agMB hmx rfl, ?_⟩)
      | (refine ⟨_, ldCh hcx, ?_⟩)
      | (refine ⟨_, cell_load ag3 hdx rfl, ?_⟩)
      | (refine ⟨fun _ => ?_, fun _ => ?_⟩ <;> first | (exfalso; omega) | skip)
      | fail
    refine (eventsOf_spec (Nat.le_refl _) (hr.keep kx1) hls hrow (by omega) ho2.mem hkl0 (by omega) (by omega) hkh).mono ?_
    rintro ev X2 ⟨hev, kA⟩
    have lA := kA.1
    have hrA := (kA.2 r (by omega)).trans hrx
    have hEl : (evsL mk lo hh ls o).length < 1000000 := by rw [evsL, downL_len, evs0_len]; omega
    repeat' first
      | refine CO.cons rfl ?_
      | refine CO.nil ?_
      | refine CV.seq ?_
      | refine CV.region callees ?_
      | refine CV.cond ?_
      | refine CV.block ?_
      | refine CV.skip ?_
      | refine CV.exit ?_
      | refine CV.ret ?_
      | refine CV.scope ?_
      | refine CV.draw callees (by decide +kernel) ?_
      | refine CH.cons rfl ?_
      | refine CH.nil ?_
      | refine CO.consG rfl ?_
      | refine CH.consG rfl ?_
      | refine CG.cons rfl ?_
      | refine CR.cons ?_
      | refine CR.nil ?_
      | refine CG.nil ?_
      | refine CG.consG rfl ?_
      | refine ⟨(rfl : plain _ = true), ?_⟩
      | refine ⟨(rfl : nilOk _ = some _), ?_⟩
      | refine ⟨_, ints_len (by assumption), ?_⟩
      | refine ⟨_, ints_addr (by assumption) (by omega) (by omega), ?_⟩
      | refine ⟨_, ints_load (by assumption) (by omega) (by omega), ?_⟩
      | refine ⟨(⟨by omega, by omega⟩ : inI64 _), ?_⟩
      | refine ⟨_, fun tm ha => step1_max rfl (ev_tmp ha rfl) (ev_tmp ha rfl), ?_⟩
      | refine ⟨_, fun tm ha => step1_min rfl (ev_tmp ha rfl) (ev_tmp ha rfl), ?_⟩
      | (refine ⟨fun _ => ?_, fun _ => ?_⟩ <;> first | (exfalso; omega) | skip)
      | fail
    refine (gather_spec (B := b0) (by omega) (by omega) hrA hev.row hEl).mono ?_
    rintro v X3 ⟨hr3, k3⟩
    have l3 := k3.1
    rw [← keysF_snoc] at hr3
    repeat' first
      | refine CO.cons rfl ?_
      | refine CO.nil ?_
      | refine CV.seq ?_
      | refine CV.region callees ?_
      | refine CV.cond ?_
      | refine CV.block ?_
      | refine CV.skip ?_
      | refine CV.exit ?_
      | refine CV.ret ?_
      | refine CV.scope ?_
      | refine CV.draw callees (by decide +kernel) ?_
      | refine CH.cons rfl ?_
      | refine CH.nil ?_
      | refine CO.consG rfl ?_
      | refine CH.consG rfl ?_
      | refine CG.cons rfl ?_
      | refine CR.cons ?_
      | refine CR.nil ?_
      | refine CG.nil ?_
      | refine CG.consG rfl ?_
      | refine ⟨(rfl : plain _ = true), ?_⟩
      | refine ⟨(rfl : nilOk _ = some _), ?_⟩
      | refine ⟨_, ints_len (by assumption), ?_⟩
      | refine ⟨_, ints_addr (by assumption) (by omega) (by omega), ?_⟩
      | refine ⟨_, ints_load (by assumption) (by omega) (by omega), ?_⟩
      | refine ⟨(⟨by omega, by omega⟩ : inI64 _), ?_⟩
      | refine ⟨_, fun tm ha => step1_max rfl (ev_tmp ha rfl) (ev_tmp ha rfl), ?_⟩
      | refine ⟨_, fun tm ha => step1_min rfl (ev_tmp ha rfl) (ev_tmp ha rfl), ?_⟩
      | (refine ⟨fun _ => ?_, fun _ => ?_⟩ <;> first | (exfalso; omega) | skip)
      | fail
    have hold : ∀ p, p < X.n → p ≠ l → p ≠ r → X3.get p = X.get p := fun p h1 h2 h3 => (k3.2 p (by omega) h3).trans ((kA.2 p (by omega)).trans (o9 p h2))
    have hl3 := (k3.2 l (by omega) (by omega)).trans ((kA.2 l (by omega)).trans hg9)
    refine ⟨_, _, _, _, _, _, _, hl3, rfl, .inl ⟨rfl, ⟨?_, ?_, ?_, ?_, ?_, ?_, ?_, ?_, q9⟩, ?_⟩, ?_⟩
    · rw [Heap.get_set_eq]; exact hg8.symm
    · rw [Heap.get_set_ne _ _ (by omega)]; exact hr3
    · rw [Heap.get_set_ne _ _ (by omega)]; exact (hold b5 (by omega) (by omega) (by omega)).trans q3
    · rw [Heap.get_set_ne _ _ (by omega)]; exact (hold b0 (by omega) (by omega) (by omega)).trans q4
    · rw [Heap.get_set_ne _ _ (by omega)]; exact (hold b1 (by omega) (by omega) (by omega)).trans q5
    · rw [Heap.get_set_ne _ _ (by omega)]; exact (hold c (by omega) (by omega) (by omega)).trans q6
    · exact ⟨by show H.n ≤ X3.n; omega, fun p hp => by rw [Heap.get_set_ne _ _ (by omega)]; exact (hold p (by omega) (by omega) (by omega)).trans (q7.2 p hp)⟩
    · show H8.n ≤ X3.n; omega
    · intro p hp
      rw [Heap.get_set_ne _ _ (by omega)]; exact hold p (by omega) (by omega) (by omega)
    · show X.n ≤ X3.n; omega
  rintro _ HZ ⟨⟨q, q1, q2, q3, q4, q5, q6, q7, q8, q9⟩ | hf, lZ⟩
  rotate_left
  · exact hf.elim
  refine ⟨_, _, _, _, _, _, _, q1.trans hg8, rfl, rfl, ?_⟩
  generalize hsZ : HZ.set l _ = HY
  have nZ := set_n hsZ
  have oZ := set_old hsZ
  have hmY : HY.get b5 = some (.cells [.map (some r)] 106 1) := (oZ b5 (by omega)).trans (q3.trans hm8)
  have hrY := (oZ r (by omega)).trans q2
  have kY : Keep H HY := ⟨by have := q7.1; omega, fun p hp => (oZ p (by omega)).trans (q7.2 p hp)⟩
  generalize hks : keysF mk lo hh ls d (ordersL mk lo ls) = ks at hrY hkl hho
  have hlY : b5 < HY.n ∧ r < HY.n ∧ r < b5 := ⟨by omega, by omega, by omega⟩
  clear q1 q2 q3 q4 q5 q6 q7 lZ oZ
  repeat' first
    | refine CO.cons rfl ?_
    | refine CO.nil ?_
    | refine XV.seq ?_
    | refine XV.cond ?_
    | refine XV.of (N := 149) (wr := false) (sure1 _) (CV.region callees ?_)
    | refine XV.of (N := 149) (wr := false) (sure1 _) (CV.draw callees (by decide +kernel) ?_)
    | refine XV.of (N := 149) (wr := false) (sure1 _) (CV.skip ?_)
    | refine XV.of (N := 149) (wr := false) (sure1 _) (CV.exit ?_)
    | refine XV.of (N := 149) (wr := false) (sure1 _) (CV.ret ?_)
    | refine CH.cons rfl ?_
    | refine CH.nil ?_
    | refine CO.consG rfl ?_
    | refine CG.cons rfl ?_
    | refine CR.cons ?_
    | refine CR.nil ?_
    | refine CG.nil ?_
    | refine ⟨(rfl : plain _ = true), ?_⟩
    | refine ⟨_, ints_len (by assumption), ?_⟩
    | refine ⟨_, ints_addr (by assumption) (by omega) (by omega), ?_⟩
    | refine ⟨_, ints_load (by assumption) (by omega) (by omega), ?_⟩
    | refine ⟨(⟨by omega, by omega⟩ : inI64 _), ?_⟩
    | refine ⟨_, fun tm ha => step1_min rfl (ev_tmp ha rfl) (ev_tmp ha rfl), ?_⟩
    | (refine ⟨_, cell_load agMB hmY rfl, ?_⟩)
    | (refine ⟨fun _ => ?_, fun _ => ?_⟩ <;> first | (exfalso; omega) | skip)
    | fail
  have lY := kY.1
  refine ⟨_, _, rangeK hrY, (by show _ ≤ HY.n + 1; omega), ?_⟩
  generalize hsI : HY.new _ = HI
  have hgI := new_get hsI
  have kI := new_keep hsI
  have nI := new_n hsI
  obtain ⟨bi, hbi⟩ : ∃ bi, HY.n = bi := ⟨_, rfl⟩
  rw [hbi] at hgI nI ⊢
  have hrI := (kI.2 r (by omega)).trans hrY
  repeat' first
    | refine CO.cons rfl ?_
    | refine CO.nil ?_
    | refine XV.seq ?_
    | refine XV.cond ?_
    | refine XV.of (N := 149) (wr := false) (sure1 _) (CV.region callees ?_)
    | refine XV.of (N := 149) (wr := false) (sure1 _) (CV.draw callees (by decide +kernel) ?_)
    | refine XV.of (N := 149) (wr := false) (sure1 _) (CV.skip ?_)
    | refine XV.of (N := 149) (wr := false) (sure1 _) (CV.exit ?_)
    | refine XV.of (N := 149) (wr := false) (sure1 _) (CV.ret ?_)
    | refine CH.cons rfl ?_
    | refine CH.nil ?_
    | refine CO.consG rfl ?_
    | refine CG.cons rfl ?_
    | refine CR.cons ?_
    | refine CR.nil ?_
    | refine CG.nil ?_
    | refine ⟨(rfl : plain _ = true), ?_⟩
    | refine ⟨_, ints_len (by assumption), ?_⟩
    | refine ⟨_, ints_addr (by assumption) (by omega) (by omega), ?_⟩
    | refine ⟨_, ints_load (by assumption) (by omega) (by omega), ?_⟩
    | refine ⟨(⟨by omega, by omega⟩ : inI64 _), ?_⟩
    | refine ⟨_, fun tm ha => step1_min rfl (ev_tmp ha rfl) (ev_tmp ha rfl), ?_⟩
    | fail
    | (refine ⟨fun _ => ?_, fun _ => ?_⟩ <;> first | (exfalso; omega) | skip)
    | fail
  refine XV.block ?_
  refine XV.rounds (α := List Nat × Value) (fun (seen, v) => [(9, v), (30, .pointer (some ⟨bi, 0, none⟩))]) (fun (seen, v) Hz => (seen.Nodup ∧ ∀ i ∈ seen, i < ks.length) ∧ Hz.get bi = some (.iter (some r) (entK ks).length seen (entK ks).length) ∧ Hz.get r = some (.map (entK ks)) ∧ Own 3 Hz v ((seen.map fun i => ks[i]!).map VI) H.n ∧ Keep H Hz ∧ bi < Hz.n ∧ blkOf v ≠ some bi ∧ blkOf v ≠ some r) (fun (seen, v) => ks.length - seen.length) ([], nilS) (by repeat' first | exact trivial | refine ⟨rfl, ?_⟩ | refine ⟨slot_intW (by (try simp only [Int.toNat_natCast]); omega), ?_⟩) ?_ ?_
  · exact ⟨⟨by simp, by simp⟩, hgI, hrI, .inl ⟨rfl, rfl⟩, kY.trans kI, by omega, by simp [blkOf], by simp [blkOf]⟩
  clear hrI hgI kI nI hrY hmY kY hlY lY
  rintro ⟨seen, v⟩ Hx ⟨⟨hs1, hs2⟩, hgi, hgm, hv, kx, lx, hvb, hvr⟩ hBx
  have hslen : seen.length ≤ ks.length := by
    have := List.Nodup.length_le_of_subset (l₁ := seen) (l₂ := List.range ks.length) hs1 fun x hx => List.mem_range.2 (hs2 x hx)
    rwa [List.length_range] at this
  refine XV.seq ?_
  refine XV.next rfl rfl rfl rfl rfl rfl ?_
  refine ⟨bi, r, entK ks, seen, rfl, by omega, hgi, hgm, fun kv hkv => by obtain ⟨p, _, rfl⟩ := List.mem_map.1 hkv; rfl, fun hall => ?_, fun k kv hkv hni => ?_⟩
  · have hsp : seen.Perm (List.range ks.length) := (List.perm_ext_iff_of_nodup hs1 List.nodup_range).2 fun x => ⟨fun hx => List.mem_range.2 (hs2 x hx), fun hx => hall x (by simpa [entK] using hx)⟩
    have hTp : (seen.map fun i => ks[i]!).Perm ks := by
      have h1 := hsp.map fun i => ks[i]!
      have h2 : (List.range ks.length).map (fun i => ks[i]!) = ks := by
        apply List.ext_getElem (by simp)
        intro j h3 h4
        rw [List.getElem_map, List.getElem_range, getElem!_pos ks j h4]
      rwa [h2] at h1
    generalize seen.map (fun i => ks[i]!) = T at hv hTp
    have hTl := hTp.length_eq
    rcases hv with ⟨_, h0⟩ | ⟨bT, rfl, hT1, hT2, hT3⟩
    · have h1 : T = [] := by simpa using h0
      rw [h1] at hTl
      simp only [List.length_nil] at hTl
      omega
    rw [List.length_map]
    repeat' first
      | refine CO.cons rfl ?_
      | refine CO.nil ?_
      | refine XV.seq ?_
      | refine XV.cond ?_
      | refine XV.of (N := 149) (wr := false) (sure1 _) (CV.region callees ?_)
      | refine XV.of (N := 149) (wr := false) (sure1 _) (CV.draw callees (by decide +kernel) ?_)
      | refine XV.of (N := 149) (wr := false) (sure1 _) (CV.skip ?_)
      | refine XV.of (N := 149) (wr := false) (sure1 _) (CV.exit ?_)
      | refine XV.of (N := 149) (wr := false) (sure1 _) (CV.ret ?_)
      | refine CH.cons rfl ?_
      | refine CH.nil ?_
      | refine CO.consG rfl ?_
      | refine CG.cons rfl ?_
      | refine CR.cons ?_
      | refine CR.nil ?_
      | refine CG.nil ?_
      | refine ⟨(rfl : plain _ = true), ?_⟩
      | refine ⟨_, ints_len (by assumption), ?_⟩
      | refine ⟨_, ints_addr (by assumption) (by omega) (by omega), ?_⟩
      | refine ⟨_, ints_load (by assumption) (by omega) (by omega), ?_⟩
      | refine ⟨(⟨by omega, by omega⟩ : inI64 _), ?_⟩
      | refine ⟨_, fun tm ha => step1_min rfl (ev_tmp ha rfl) (ev_tmp ha rfl), ?_⟩
      | fail
      | (refine ⟨fun _ => ?_, fun _ => ?_⟩ <;> first | (exfalso; omega) | skip)
      | fail
    refine (sort_spec (B := b0) (by omega) (by omega) hT2 hT3 (by omega) (by omega)).mono ?_
    rintro w H9 ⟨R, hR1, hR2, hR3, hR4, hR5⟩
    have hR := hho R (hR1.trans hTp) (by rw [← hTl]; exact hR2)
    repeat' first
      | refine CO.cons rfl ?_
      | refine CO.nil ?_
      | refine XV.seq ?_
      | refine XV.cond ?_
      | refine XV.of (N := 149) (wr := false) (sure1 _) (CV.region callees ?_)
      | refine XV.of (N := 149) (wr := false) (sure1 _) (CV.draw callees (by decide +kernel) ?_)
      | refine XV.of (N := 149) (wr := false) (sure1 _) (CV.skip ?_)
      | refine XV.of (N := 149) (wr := false) (sure1 _) (CV.exit ?_)
      | refine XV.of (N := 149) (wr := false) (sure1 _) (CV.ret ?_)
      | refine CH.cons rfl ?_
      | refine CH.nil ?_
      | refine CO.consG rfl ?_
      | refine CG.cons rfl ?_
      | refine CR.cons ?_
      | refine CR.nil ?_
      | refine CG.nil ?_
      | refine ⟨(rfl : plain _ = true), ?_⟩
      | refine ⟨_, ints_len (by assumption), ?_⟩
      | refine ⟨_, ints_addr (by assumption) (by omega) (by omega), ?_⟩
      | refine ⟨_, ints_load (by assumption) (by omega) (by omega), ?_⟩
      | refine ⟨(⟨by omega, by omega⟩ : inI64 _), ?_⟩
      | refine ⟨_, fun tm ha => step1_min rfl (ev_tmp ha rfl) (ev_tmp ha rfl), ?_⟩
      | fail
      | (refine ⟨fun _ => ?_, fun _ => ?_⟩ <;> first | (exfalso; omega) | skip)
      | fail
    refine ⟨.inr rfl, bT, ?_, by omega, by rw [← hR]; exact hR3⟩
    rw [← hR, hR1.length_eq]
  · have hk : k < ks.length := by
      have := (List.getElem?_eq_some_iff.1 hkv).1
      simpa [entK] using this
    generalize hs3 : Heap.set Hx bi _ = H3x
    have hg3 : H3x.get bi = some (.iter (some r) (entK ks).length (seen ++ [k]) (entK ks).length) := set_get hs3
    have n3 := set_n hs3
    have o3 := set_old hs3
    have hgm3 := (o3 r (by intro e; rw [e, hgi] at hgm; cases hgm)).trans hgm
    have hv3 : Own 3 H3x v ((seen.map fun i => ks[i]!).map VI) H.n := own_keepF hv (by omega) fun p hp => o3 p (fun e => hvb (e ▸ hp))
    have kx3 : Keep H H3x := keep_put kx (by have := kx.1; omega) o3 n3
    have hnd : (seen ++ [k]).Nodup := by
      rw [List.nodup_append]
      refine ⟨hs1, by simp, fun a ha b hb => ?_⟩
      rw [List.mem_singleton] at hb
      subst hb
      exact fun e => hni (e ▸ ha)
    have hlen2 : (seen ++ [k]).length ≤ ks.length := by
      have := List.Nodup.length_le_of_subset (l₁ := seen ++ [k]) (l₂ := List.range ks.length) hnd fun x hx => by
        rcases List.mem_append.1 hx with h | h
        · exact List.mem_range.2 (hs2 x h)
        · rw [List.mem_singleton] at h; subst h; exact List.mem_range.2 hk
      rwa [List.length_range] at this
    rw [List.length_append, List.length_singleton] at hlen2
    have hent := entryK hg3 hgm3 hk
    have hvlt := fun c hc => (hv3.lt (c := c) hc)
    repeat' first
      | refine CO.cons rfl ?_
      | refine CO.nil ?_
      | refine XV.seq ?_
      | refine XV.cond ?_
      | refine XV.of (N := 149) (wr := false) (sure1 _) (CV.region callees ?_)
      | refine XV.of (N := 149) (wr := false) (sure1 _) (CV.draw callees (by decide +kernel) ?_)
      | refine XV.of (N := 149) (wr := false) (sure1 _) (CV.skip ?_)
      | refine XV.of (N := 149) (wr := false) (sure1 _) (CV.exit ?_)
      | refine XV.of (N := 149) (wr := false) (sure1 _) (CV.ret ?_)
      | refine CH.cons rfl ?_
      | refine CH.nil ?_
      | refine CO.consG rfl ?_
      | refine CG.cons rfl ?_
      | refine CR.cons ?_
      | refine CR.nil ?_
      | refine CG.nil ?_
      | refine ⟨(rfl : plain _ = true), ?_⟩
      | refine ⟨_, ints_len (by assumption), ?_⟩
      | refine ⟨_, ints_addr (by assumption) (by omega) (by omega), ?_⟩
      | refine ⟨_, ints_load (by assumption) (by omega) (by omega), ?_⟩
      | refine ⟨(⟨by omega, by omega⟩ : inI64 _), ?_⟩
      | refine ⟨_, fun tm ha => step1_min rfl (ev_tmp ha rfl) (ev_tmp ha rfl), ?_⟩
      | fail
      | (refine ⟨fun _ => ?_, fun _ => ?_⟩ <;> first | (exfalso; omega) | skip)
      | fail
    refine XV.block ?_
    repeat' first
      | refine CO.cons rfl ?_
      | refine CO.nil ?_
      | refine XV.seq ?_
      | refine XV.cond ?_
      | refine XV.of (N := 149) (wr := false) (sure1 _) (CV.region callees ?_)
      | refine XV.of (N := 149) (wr := false) (sure1 _) (CV.draw callees (by decide +kernel) ?_)
      | refine XV.of (N := 149) (wr := false) (sure1 _) (CV.skip ?_)
      | refine XV.of (N := 149) (wr := false) (sure1 _) (CV.exit ?_)
      | refine XV.of (N := 149) (wr := false) (sure1 _) (CV.ret ?_)
      | refine CH.cons rfl ?_
      | refine CH.nil ?_
      | refine CO.consG rfl ?_
      | refine CG.cons rfl ?_
      | refine CR.cons ?_
      | refine CR.nil ?_
      | refine CG.nil ?_
      | refine ⟨(rfl : plain _ = true), ?_⟩
      | refine ⟨_, ints_len (by assumption), ?_⟩
      | refine ⟨_, ints_addr (by assumption) (by omega) (by omega), ?_⟩
      | refine ⟨_, ints_load (by assumption) (by omega) (by omega), ?_⟩
      | refine ⟨(⟨by omega, by omega⟩ : inI64 _), ?_⟩
      | refine ⟨_, fun tm ha => step1_min rfl (ev_tmp ha rfl) (ev_tmp ha rfl), ?_⟩
      | (refine ⟨_, hent, ?_⟩)
      | (refine ⟨_, _, build_one un22 one3 rfl, ?_⟩)
      | (refine ⟨fun _ => ?_, fun _ => ?_⟩ <;> first | (exfalso; omega) | skip)
      | fail
    refine push_ask hv3 (by omega) (by omega) (by rw [List.length_map]; omega) ?_
    intro v' H5x hv5 kb5 hf5
    have l5 := kb5.le
    have hgi5 := (kb5.get bi (by omega) hvb).trans hg3
    have hgm5 := (kb5.get r (by omega) hvr).trans hgm3
    repeat' first
      | refine CO.cons rfl ?_
      | refine CO.nil ?_
      | refine XV.seq ?_
      | refine XV.cond ?_
      | refine XV.of (N := 149) (wr := false) (sure1 _) (CV.region callees ?_)
      | refine XV.of (N := 149) (wr := false) (sure1 _) (CV.draw callees (by decide +kernel) ?_)
      | refine XV.of (N := 149) (wr := false) (sure1 _) (CV.skip ?_)
      | refine XV.of (N := 149) (wr := false) (sure1 _) (CV.exit ?_)
      | refine XV.of (N := 149) (wr := false) (sure1 _) (CV.ret ?_)
      | refine CH.cons rfl ?_
      | refine CH.nil ?_
      | refine CO.consG rfl ?_
      | refine CG.cons rfl ?_
      | refine CR.cons ?_
      | refine CR.nil ?_
      | refine CG.nil ?_
      | refine ⟨(rfl : plain _ = true), ?_⟩
      | refine ⟨_, ints_len (by assumption), ?_⟩
      | refine ⟨_, ints_addr (by assumption) (by omega) (by omega), ?_⟩
      | refine ⟨_, ints_load (by assumption) (by omega) (by omega), ?_⟩
      | refine ⟨(⟨by omega, by omega⟩ : inI64 _), ?_⟩
      | refine ⟨_, fun tm ha => step1_min rfl (ev_tmp ha rfl) (ev_tmp ha rfl), ?_⟩
      | fail
      | (refine ⟨fun _ => ?_, fun _ => ?_⟩ <;> first | (exfalso; omega) | skip)
      | fail
    refine ⟨(seen ++ [k], v'), (by repeat' first | exact trivial | refine ⟨rfl, ?_⟩), ?_, ⟨hnd, fun i hi => ?_⟩, hgi5, hgm5, ?_, kb5.keep kx3 (fun c hc => (hvlt c hc).1), by omega, fun e => ?_, fun e => ?_⟩
    · show ks.length - (seen ++ [k]).length < ks.length - seen.length
      rw [List.length_append, List.length_singleton]; omega
    · rcases List.mem_append.1 hi with h | h
      · exact hs2 i h
      · rw [List.mem_singleton] at h; subst h; exact hk
    · rw [List.map_append]; exact hv5
    · have := hf5 _ e; omega
    · have := hf5 _ e; omega
end Go.Proofs.YtijimplcjaeneaaGreatDoor

