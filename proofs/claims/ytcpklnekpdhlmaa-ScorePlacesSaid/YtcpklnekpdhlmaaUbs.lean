
/- Who is before whom, by the program. -/
import Derived.Test.YtcpklnekpdhlmaaUas
set_option linter.unusedVariables false
set_option linter.unusedSimpArgs false
namespace Go.Proofs.Ytcpklnekpdhlmaa
open Go.AI
abbrev AMl : List Value := [.nilFunc, .func (.func 107) #[] #[], .func (.func 108) #[] #[], .func (.func 109) #[] #[], .func (.func 110) #[] #[], .func (.func 111) #[] #[], .func (.func 112) #[] #[]]
abbrev AMv : Value := .agg #[.nilFunc, .func (.func 107) #[] #[], .func (.func 108) #[] #[], .func (.func 109) #[] #[], .func (.func 110) #[] #[], .func (.func 111) #[] #[], .func (.func 112) #[] #[]]
abbrev AM0 : List Value := [.nilFunc, .nilFunc, .nilFunc, .nilFunc, .nilFunc, .nilFunc, .nilFunc]
theorem un127 : Try.prog.underlying 127 = some (.array 7 126) := by kernel_rfl
theorem sz126 : sizeB Try.prog 126 = some 1 := by kernel_rfl
theorem ag126 : isAggB Try.prog 126 = some false := by kernel_rfl
theorem ag127 : isAggB Try.prog 127 = some true := by kernel_rfl
theorem sz127 : sizeB Try.prog 127 = some 7 := by kernel_rfl
theorem zero127 : zeroCells Try.prog 127 = some AM0 := by kernel_rfl
theorem alloc127 {H : Heap} : sAlloc Try.prog H 127 = some (.pointer (some ⟨H.n, 0, none⟩), H.new (.cells AM0 127 1), H.n) := alloc_of zero127
theorem build127 : abuild Try.prog 127 [(1, .func (.func 107) #[] #[]), (2, .func (.func 108) #[] #[]), (3, .func (.func 109) #[] #[]), (4, .func (.func 110) #[] #[]), (5, .func (.func 111) #[] #[]), (6, .func (.func 112) #[] #[])] = some AMv := by kernel_rfl
theorem storeM {H : Heap} {b : Nat} (hg : H.get b = some (.cells AM0 127 1)) : astore Try.prog 127 H AMv (.pointer (some ⟨b, 0, none⟩)) = some (H.set b (.cells AMl 127 1), b) :=
  store_all (vs := AMl) hg rfl sz127 rfl
theorem loadM {H : Heap} {b : Nat} (hg : H.get b = some (.cells AMl 127 1)) : aload Try.prog 127 H (.pointer (some ⟨b, 0, none⟩)) = some AMv := by
  simp [aload, hg, ag127, sz127]
theorem addrM {b : Nat} {i : Int} (h0 : 0 ≤ i) (h1 : i < 7) : aindexAddr Try.prog 127 (.pointer (some ⟨b, 0, none⟩)) (.int .i64 i) = some (.pointer (some ⟨b, 0 + i.toNat * 1, none⟩)) := array_addr un127 sz126 h0 (by omega)
set_option maxRecDepth 100000 in
theorem amounts_spec {B : Nat} {H : Heap} (hB : B ≤ H.n) :
    CallB Try.prog B 96 [] H (fun r H' => r = AMv ∧ Keep H H') := by
  refine CV.enter callees false rfl Try.func96 rfl (by kernel_rfl) (Nat.le_of_ble_eq_true rfl) hB ?_
  repeat' first
    | refine CO.cons rfl ?_
    | refine CO.nil ?_
    | refine CV.seq ?_
    | refine CV.region callees ?_
    | refine CV.cond ?_
    | refine CV.block ?_
    | refine CV.skip ?_
    | refine CV.exit ?_
    | refine CV.ret ?_
    | refine CV.scope ?_
    | refine CV.draw callees rfl ?_
    | refine CH.cons rfl ?_
    | refine CH.nil ?_
    | refine CO.consG rfl ?_
    | refine CH.consG rfl ?_
    | refine CG.cons rfl ?_
    | refine CR.cons ?_
    | refine CR.nil ?_
    | refine CG.nil ?_
    | refine CG.consG rfl ?_
    | refine ⟨(rfl : plain _ = true), ?_⟩
    | refine ⟨(rfl : nilOk _ = some _), ?_⟩
    | refine ⟨_, ints_len (by assumption), ?_⟩
    | refine ⟨_, ints_addr (by assumption) (by omega) (by omega), ?_⟩
    | refine ⟨_, ints_load (by assumption) (by omega) (by omega), ?_⟩
    | refine ⟨(⟨by omega, by omega⟩ : inI64 _), ?_⟩
    | refine ⟨_, fun tm ha => step1_max rfl (ev_tmp ha rfl) (ev_tmp ha rfl), ?_⟩
    | refine ⟨_, fun tm ha => step1_min rfl (ev_tmp ha rfl) (ev_tmp ha rfl), ?_⟩
    | (refine ⟨_, _, alloc127, ?_⟩)
    | (refine ⟨_, build127, ?_⟩)
    | (refine ⟨fun _ => ?_, fun _ => ?_⟩ <;> first | (exfalso; omega) | skip)
    | fail
  generalize hs : H.new (.cells AM0 127 1) = Hs
  have hg := new_get hs
  have kk := new_keep hs
  have l1 := kk.1
  refine ⟨_, _, storeM hg, by omega, ?_⟩
  generalize hs2 : Hs.set H.n _ = Ht
  have hg2 := set_get hs2
  repeat' first
    | refine CO.cons rfl ?_
    | refine CO.nil ?_
    | refine CV.seq ?_
    | refine CV.region callees ?_
    | refine CV.cond ?_
    | refine CV.block ?_
    | refine CV.skip ?_
    | refine CV.exit ?_
    | refine CV.ret ?_
    | refine CV.scope ?_
    | refine CV.draw callees rfl ?_
    | refine CH.cons rfl ?_
    | refine CH.nil ?_
    | refine CO.consG rfl ?_
    | refine CH.consG rfl ?_
    | refine CG.cons rfl ?_
    | refine CR.cons ?_
    | refine CR.nil ?_
    | refine CG.nil ?_
    | refine CG.consG rfl ?_
    | refine ⟨(rfl : plain _ = true), ?_⟩
    | refine ⟨(rfl : nilOk _ = some _), ?_⟩
    | refine ⟨_, ints_len (by assumption), ?_⟩
    | refine ⟨_, ints_addr (by assumption) (by omega) (by omega), ?_⟩
    | refine ⟨_, ints_load (by assumption) (by omega) (by omega), ?_⟩
    | refine ⟨(⟨by omega, by omega⟩ : inI64 _), ?_⟩
    | refine ⟨_, fun tm ha => step1_max rfl (ev_tmp ha rfl) (ev_tmp ha rfl), ?_⟩
    | refine ⟨_, fun tm ha => step1_min rfl (ev_tmp ha rfl) (ev_tmp ha rfl), ?_⟩
    | (refine ⟨fun _ => ?_, fun _ => ?_⟩ <;> first | (exfalso; omega) | skip)
    | fail
  exact ⟨_, loadM hg2, rfl, rfl, keep_put kk (Nat.le_refl _) (set_old hs2) (set_n hs2)⟩
set_option maxRecDepth 100000 in
theorem nan_spec {B : Nat} {H : Heap} {x : Int} (hB : B ≤ H.n) :
    CallB Try.prog B 113 [.int .i64 x] H (fun r H' => r = .bool false ∧ H' = H) := by
  refine CV.enter callees false rfl Try.func113 rfl (by kernel_rfl) (Nat.le_of_ble_eq_true rfl) hB ?_
  repeat' first
    | refine CO.cons rfl ?_
    | refine CO.nil ?_
    | refine CV.seq ?_
    | refine CV.region callees ?_
    | refine CV.cond ?_
    | refine CV.block ?_
    | refine CV.skip ?_
    | refine CV.exit ?_
    | refine CV.ret ?_
    | refine CV.scope ?_
    | refine CV.draw callees rfl ?_
    | refine CH.cons rfl ?_
    | refine CH.nil ?_
    | refine CO.consG rfl ?_
    | refine CH.consG rfl ?_
    | refine CG.cons rfl ?_
    | refine CR.cons ?_
    | refine CR.nil ?_
    | refine CG.nil ?_
    | refine CG.consG rfl ?_
    | refine ⟨(rfl : plain _ = true), ?_⟩
    | refine ⟨(rfl : nilOk _ = some _), ?_⟩
    | refine ⟨_, ints_len (by assumption), ?_⟩
    | refine ⟨_, ints_addr (by assumption) (by omega) (by omega), ?_⟩
    | refine ⟨_, ints_load (by assumption) (by omega) (by omega), ?_⟩
    | refine ⟨(⟨by omega, by omega⟩ : inI64 _), ?_⟩
    | refine ⟨_, fun tm ha => step1_max rfl (ev_tmp ha rfl) (ev_tmp ha rfl), ?_⟩
    | refine ⟨_, fun tm ha => step1_min rfl (ev_tmp ha rfl) (ev_tmp ha rfl), ?_⟩
    | (refine ⟨fun _ => ?_, fun _ => ?_⟩ <;> first | (exfalso; omega) | skip)
    | fail
  exact ⟨rfl, rfl, rfl⟩
def cmpI (x y : Int) : Int := if x < y then -1 else if y < x then 1 else 0
set_option maxRecDepth 100000 in
theorem cmp_spec {B : Nat} {H : Heap} {x y : Int} (hB : B ≤ H.n) :
    CallB Try.prog B 97 [.int .i64 x, .int .i64 y] H (fun r H' => r = .int .i64 (cmpI x y) ∧ H' = H) := by
  refine CV.enter callees false rfl Try.func97 rfl (by kernel_rfl) (Nat.le_of_ble_eq_true rfl) hB ?_
  repeat' first
    | refine CO.cons rfl ?_
    | refine CO.nil ?_
    | refine CV.seq ?_
    | refine CV.region callees ?_
    | refine CV.cond ?_
    | refine CV.block ?_
    | refine CV.skip ?_
    | refine CV.exit ?_
    | refine CV.ret ?_
    | refine CV.scope ?_
    | refine CV.draw callees rfl ?_
    | refine CH.cons rfl ?_
    | refine CH.nil ?_
    | refine CO.consG rfl ?_
    | refine CH.consG rfl ?_
    | refine CG.cons rfl ?_
    | refine CR.cons ?_
    | refine CR.nil ?_
    | refine CG.nil ?_
    | refine CG.consG rfl ?_
    | refine ⟨(rfl : plain _ = true), ?_⟩
    | refine ⟨(rfl : nilOk _ = some _), ?_⟩
    | refine ⟨_, ints_len (by assumption), ?_⟩
    | refine ⟨_, ints_addr (by assumption) (by omega) (by omega), ?_⟩
    | refine ⟨_, ints_load (by assumption) (by omega) (by omega), ?_⟩
    | refine ⟨(⟨by omega, by omega⟩ : inI64 _), ?_⟩
    | refine ⟨_, fun tm ha => step1_max rfl (ev_tmp ha rfl) (ev_tmp ha rfl), ?_⟩
    | refine ⟨_, fun tm ha => step1_min rfl (ev_tmp ha rfl) (ev_tmp ha rfl), ?_⟩
    | (refine ⟨fun _ => ?_, fun _ => ?_⟩ <;> first | (exfalso; omega) | skip)
    | fail
  refine (nan_spec hB).mono ?_
  rintro r H1 ⟨rfl, rfl⟩
  repeat' first
    | refine CO.cons rfl ?_
    | refine CO.nil ?_
    | refine CV.seq ?_
    | refine CV.region callees ?_
    | refine CV.cond ?_
    | refine CV.block ?_
    | refine CV.skip ?_
    | refine CV.exit ?_
    | refine CV.ret ?_
    | refine CV.scope ?_
    | refine CV.draw callees rfl ?_
    | refine CH.cons rfl ?_
    | refine CH.nil ?_
    | refine CO.consG rfl ?_
    | refine CH.consG rfl ?_
    | refine CG.cons rfl ?_
    | refine CR.cons ?_
    | refine CR.nil ?_
    | refine CG.nil ?_
    | refine CG.consG rfl ?_
    | refine ⟨(rfl : plain _ = true), ?_⟩
    | refine ⟨(rfl : nilOk _ = some _), ?_⟩
    | refine ⟨_, ints_len (by assumption), ?_⟩
    | refine ⟨_, ints_addr (by assumption) (by omega) (by omega), ?_⟩
    | refine ⟨_, ints_load (by assumption) (by omega) (by omega), ?_⟩
    | refine ⟨(⟨by omega, by omega⟩ : inI64 _), ?_⟩
    | refine ⟨_, fun tm ha => step1_max rfl (ev_tmp ha rfl) (ev_tmp ha rfl), ?_⟩
    | refine ⟨_, fun tm ha => step1_min rfl (ev_tmp ha rfl) (ev_tmp ha rfl), ?_⟩
    | (refine ⟨fun _ => ?_, fun _ => ?_⟩ <;> first | (exfalso; omega) | skip)
    | fail
  refine (nan_spec hB).mono ?_
  rintro r H2 ⟨rfl, rfl⟩
  repeat' first
    | refine CO.cons rfl ?_
    | refine CO.nil ?_
    | refine CV.seq ?_
    | refine CV.region callees ?_
    | refine CV.cond ?_
    | refine CV.block ?_
    | refine CV.skip ?_
    | refine CV.exit ?_
    | refine CV.ret ?_
    | refine CV.scope ?_
    | refine CV.draw callees rfl ?_
    | refine CH.cons rfl ?_
    | refine CH.nil ?_
    | refine CO.consG rfl ?_
    | refine CH.consG rfl ?_
    | refine CG.cons rfl ?_
    | refine CR.cons ?_
    | refine CR.nil ?_
    | refine CG.nil ?_
    | refine CG.consG rfl ?_
    | refine ⟨(rfl : plain _ = true), ?_⟩
    | refine ⟨(rfl : nilOk _ = some _), ?_⟩
    | refine ⟨_, ints_len (by assumption), ?_⟩
    | refine ⟨_, ints_addr (by assumption) (by omega) (by omega), ?_⟩
    | refine ⟨_, ints_load (by assumption) (by omega) (by omega), ?_⟩
    | refine ⟨(⟨by omega, by omega⟩ : inI64 _), ?_⟩
    | refine ⟨_, fun tm ha => step1_max rfl (ev_tmp ha rfl) (ev_tmp ha rfl), ?_⟩
    | refine ⟨_, fun tm ha => step1_min rfl (ev_tmp ha rfl) (ev_tmp ha rfl), ?_⟩
    | (refine ⟨fun _ => ?_, fun _ => ?_⟩ <;> first | (exfalso; omega) | skip)
    | fail
  · exact ⟨rfl, by rw [cmpI, if_pos (by omega)], rfl⟩
  · exact ⟨rfl, by rw [cmpI, if_neg (by omega), if_pos (by omega)], rfl⟩
  · exact ⟨rfl, by rw [cmpI, if_neg (by omega), if_neg (by omega)], rfl⟩
theorem bef_drop {ks : List Int} {f g : Int → Int} {t : Nat} (h : t < ks.length) : bef (ks.drop t) f g = if f ks[t]! = g ks[t]! then bef (ks.drop (t + 1)) f g else decide (g ks[t]! < f ks[t]!) := by
  rw [List.drop_eq_getElem_cons h, bef, getElem!_pos ks t h]
set_option maxHeartbeats 4000000 in
set_option maxRecDepth 100000 in
theorem isBefore_spec {B : Nat} {H : Heap} {k : Value} {ks : List Int} {x y : Scr} {i j : Int} (hB : B ≤ H.n) (hk : Ints H k ks) (hn : ks.length < 1000000) (hq : ∀ t, t < ks.length → 1 ≤ ks[t]! ∧ ks[t]! ≤ 6) (i0 : 0 ≤ i) (i1 : i < 1000000) (j0 : 0 ≤ j) (j1 : j < 1000000) :
    CallB Try.prog B 83 [k, Gv x i, Gv y j] H (fun r H' => r = .bool (bef ks (amt x i) (amt y j)) ∧ Keep H H') := by
  refine CV.enter callees false rfl Try.func83 rfl (by kernel_rfl) (Nat.le_of_ble_eq_true rfl) hB ?_
  repeat' first
    | refine CO.cons rfl ?_
    | refine CO.nil ?_
    | refine CV.seq ?_
    | refine CV.region callees ?_
    | refine CV.cond ?_
    | refine CV.block ?_
    | refine CV.skip ?_
    | refine CV.exit ?_
    | refine CV.ret ?_
    | refine CV.scope ?_
    | refine CV.draw callees rfl ?_
    | refine CH.cons rfl ?_
    | refine CH.nil ?_
    | refine CO.consG rfl ?_
    | refine CH.consG rfl ?_
    | refine CG.cons rfl ?_
    | refine CR.cons ?_
    | refine CR.nil ?_
    | refine CG.nil ?_
    | refine CG.consG rfl ?_
    | refine ⟨(rfl : plain _ = true), ?_⟩
    | refine ⟨(rfl : nilOk _ = some _), ?_⟩
    | refine ⟨_, ints_len (by assumption), ?_⟩
    | refine ⟨_, ints_addr (by assumption) (by omega) (by omega), ?_⟩
    | refine ⟨_, ints_load (by assumption) (by omega) (by omega), ?_⟩
    | refine ⟨(⟨by omega, by omega⟩ : inI64 _), ?_⟩
    | refine ⟨_, fun tm ha => step1_max rfl (ev_tmp ha rfl) (ev_tmp ha rfl), ?_⟩
    | refine ⟨_, fun tm ha => step1_min rfl (ev_tmp ha rfl) (ev_tmp ha rfl), ?_⟩
    | (refine ⟨(rfl : notTuple _ = true), ?_⟩)
    | (refine ⟨fun _ => ?_, fun _ => ?_⟩ <;> first | (exfalso; omega) | skip)
    | fail
  rw [alloc_g]
  generalize hs1 : H.new (Gc x i) = Ha
  have hga := new_get hs1
  have k1 := new_keep hs1
  have n1 := new_n hs1
  obtain ⟨ba, hba⟩ : ∃ ba, H.n = ba := ⟨_, rfl⟩
  rw [hba] at hga n1 ⊢
  repeat' first
    | refine CO.cons rfl ?_
    | refine CO.nil ?_
    | refine CV.seq ?_
    | refine CV.region callees ?_
    | refine CV.cond ?_
    | refine CV.block ?_
    | refine CV.skip ?_
    | refine CV.exit ?_
    | refine CV.ret ?_
    | refine CV.scope ?_
    | refine CV.draw callees rfl ?_
    | refine CH.cons rfl ?_
    | refine CH.nil ?_
    | refine CO.consG rfl ?_
    | refine CH.consG rfl ?_
    | refine CG.cons rfl ?_
    | refine CR.cons ?_
    | refine CR.nil ?_
    | refine CG.nil ?_
    | refine CG.consG rfl ?_
    | refine ⟨(rfl : plain _ = true), ?_⟩
    | refine ⟨(rfl : nilOk _ = some _), ?_⟩
    | refine ⟨_, ints_len (by assumption), ?_⟩
    | refine ⟨_, ints_addr (by assumption) (by omega) (by omega), ?_⟩
    | refine ⟨_, ints_load (by assumption) (by omega) (by omega), ?_⟩
    | refine ⟨(⟨by omega, by omega⟩ : inI64 _), ?_⟩
    | refine ⟨_, fun tm ha => step1_max rfl (ev_tmp ha rfl) (ev_tmp ha rfl), ?_⟩
    | refine ⟨_, fun tm ha => step1_min rfl (ev_tmp ha rfl) (ev_tmp ha rfl), ?_⟩
    | (refine ⟨(rfl : notTuple _ = true), ?_⟩)
    | (refine ⟨fun _ => ?_, fun _ => ?_⟩ <;> first | (exfalso; omega) | skip)
    | fail
  rw [alloc_g]
  generalize hs2 : Ha.new (Gc y j) = Hb
  have hgb := new_get hs2
  have k2 := new_keep hs2
  have n2 := new_n hs2
  obtain ⟨bb, hbb⟩ : ∃ bb, Ha.n = bb := ⟨_, rfl⟩
  rw [hbb] at hgb n2 ⊢
  repeat' first
    | refine CO.cons rfl ?_
    | refine CO.nil ?_
    | refine CV.seq ?_
    | refine CV.region callees ?_
    | refine CV.cond ?_
    | refine CV.block ?_
    | refine CV.skip ?_
    | refine CV.exit ?_
    | refine CV.ret ?_
    | refine CV.scope ?_
    | refine CV.draw callees rfl ?_
    | refine CH.cons rfl ?_
    | refine CH.nil ?_
    | refine CO.consG rfl ?_
    | refine CH.consG rfl ?_
    | refine CG.cons rfl ?_
    | refine CR.cons ?_
    | refine CR.nil ?_
    | refine CG.nil ?_
    | refine CG.consG rfl ?_
    | refine ⟨(rfl : plain _ = true), ?_⟩
    | refine ⟨(rfl : nilOk _ = some _), ?_⟩
    | refine ⟨_, ints_len (by assumption), ?_⟩
    | refine ⟨_, ints_addr (by assumption) (by omega) (by omega), ?_⟩
    | refine ⟨_, ints_load (by assumption) (by omega) (by omega), ?_⟩
    | refine ⟨(⟨by omega, by omega⟩ : inI64 _), ?_⟩
    | refine ⟨_, fun tm ha => step1_max rfl (ev_tmp ha rfl) (ev_tmp ha rfl), ?_⟩
    | refine ⟨_, fun tm ha => step1_min rfl (ev_tmp ha rfl) (ev_tmp ha rfl), ?_⟩
    | (refine ⟨fun _ => ?_, fun _ => ?_⟩ <;> first | (exfalso; omega) | skip)
    | fail
  refine (amounts_spec (by omega)).mono ?_
  rintro r Hc ⟨rfl, k3⟩
  have l3 := k3.1
  repeat' first
    | refine CO.cons rfl ?_
    | refine CO.nil ?_
    | refine CV.seq ?_
    | refine CV.region callees ?_
    | refine CV.cond ?_
    | refine CV.block ?_
    | refine CV.skip ?_
    | refine CV.exit ?_
    | refine CV.ret ?_
    | refine CV.scope ?_
    | refine CV.draw callees rfl ?_
    | refine CH.cons rfl ?_
    | refine CH.nil ?_
    | refine CO.consG rfl ?_
    | refine CH.consG rfl ?_
    | refine CG.cons rfl ?_
    | refine CR.cons ?_
    | refine CR.nil ?_
    | refine CG.nil ?_
    | refine CG.consG rfl ?_
    | refine ⟨(rfl : plain _ = true), ?_⟩
    | refine ⟨(rfl : nilOk _ = some _), ?_⟩
    | refine ⟨_, ints_len (by assumption), ?_⟩
    | refine ⟨_, ints_addr (by assumption) (by omega) (by omega), ?_⟩
    | refine ⟨_, ints_load (by assumption) (by omega) (by omega), ?_⟩
    | refine ⟨(⟨by omega, by omega⟩ : inI64 _), ?_⟩
    | refine ⟨_, fun tm ha => step1_max rfl (ev_tmp ha rfl) (ev_tmp ha rfl), ?_⟩
    | refine ⟨_, fun tm ha => step1_min rfl (ev_tmp ha rfl) (ev_tmp ha rfl), ?_⟩
    | (refine ⟨_, _, alloc127, ?_⟩)
    | (refine ⟨fun _ => ?_, fun _ => ?_⟩ <;> first | (exfalso; omega) | skip)
    | fail
  generalize hs4 : Hc.new (.cells AM0 127 1) = Hd
  have hgd := new_get hs4
  have k4 := new_keep hs4
  have n4 := new_n hs4
  obtain ⟨bm, hbm⟩ : ∃ bm, Hc.n = bm := ⟨_, rfl⟩
  rw [hbm] at hgd n4 ⊢
  refine ⟨_, _, storeM hgd, by omega, ?_⟩
  generalize hs5 : Hd.set bm _ = He
  have hgm := set_get hs5
  have n5 := set_n hs5
  have o5 := set_old hs5
  have kh : Keep H He := keep_put (((k1.trans k2).trans k3).trans k4) (by omega) o5 n5
  have hka : He.get ba = some (Gc x i) := by rw [o5 ba (by omega), k4.2 ba (by omega), k3.2 ba (by omega), k2.2 ba (by omega)]; exact hga
  have hkb : He.get bb = some (Gc y j) := by rw [o5 bb (by omega), k4.2 bb (by omega), k3.2 bb (by omega)]; exact hgb
  have hke : Ints He k ks := Row.keep hk kh
  have le := kh.1
  repeat' first
    | refine CO.cons rfl ?_
    | refine CO.nil ?_
    | refine CV.seq ?_
    | refine CV.region callees ?_
    | refine CV.cond ?_
    | refine CV.block ?_
    | refine CV.skip ?_
    | refine CV.exit ?_
    | refine CV.ret ?_
    | refine CV.scope ?_
    | refine CV.draw callees rfl ?_
    | refine CH.cons rfl ?_
    | refine CH.nil ?_
    | refine CO.consG rfl ?_
    | refine CH.consG rfl ?_
    | refine CG.cons rfl ?_
    | refine CR.cons ?_
    | refine CR.nil ?_
    | refine CG.nil ?_
    | refine CG.consG rfl ?_
    | refine ⟨(rfl : plain _ = true), ?_⟩
    | refine ⟨(rfl : nilOk _ = some _), ?_⟩
    | refine ⟨_, ints_len (by assumption), ?_⟩
    | refine ⟨_, ints_addr (by assumption) (by omega) (by omega), ?_⟩
    | refine ⟨_, ints_load (by assumption) (by omega) (by omega), ?_⟩
    | refine ⟨(⟨by omega, by omega⟩ : inI64 _), ?_⟩
    | refine ⟨_, fun tm ha => step1_max rfl (ev_tmp ha rfl) (ev_tmp ha rfl), ?_⟩
    | refine ⟨_, fun tm ha => step1_min rfl (ev_tmp ha rfl) (ev_tmp ha rfl), ?_⟩
    | (refine ⟨fun _ => ?_, fun _ => ?_⟩ <;> first | (exfalso; omega) | skip)
    | fail
  refine CV.loopc ?_
  refine WCv.rounds callees false (α := Nat) (fun t => [(4, .pointer (some ⟨ba, 0, none⟩)), (5, .pointer (some ⟨bb, 0, none⟩)), (7, .pointer (some ⟨bm, 0, none⟩)), (12, k), (13, .int .i64 ks.length), (14, .int .i64 t)]) (fun t Hz => t ≤ ks.length ∧ Keep He Hz ∧ bef ks (amt x i) (amt y j) = bef (ks.drop t) (amt x i) (amt y j)) (fun t => ks.length - t) (0) (by repeat' first | exact trivial | refine ⟨rfl, ?_⟩ | refine ⟨slot_int (by (try simp only [Int.toNat_natCast]); omega), ?_⟩) ?_ ?_
  · exact ⟨by omega, Keep.refl _, rfl⟩
  rintro t Hx ⟨hte, kx, hbf⟩ hBx
  have lx := kx.1
  have hgax : Hx.get ba = some (Gc x i) := by rw [kx.2 ba (by omega)]; exact hka
  have hgbx : Hx.get bb = some (Gc y j) := by rw [kx.2 bb (by omega)]; exact hkb
  have hgmx : Hx.get bm = some (.cells AMl 127 1) := by rw [kx.2 bm (by omega)]; exact hgm
  by_cases ht : t < ks.length
  · have ad : aindexAddr Try.prog 22 k (.int .i64 (t : Int)) = some (elemAt k t) := ints_addr (Row.keep hke kx : Ints Hx k ks) (by omega) (by omega)
    have hxt : ks[(t : Int).toNat]! = ks[t]! := rfl
    have hkey : ks[t]! = 1 ∨ ks[t]! = 2 ∨ ks[t]! = 3 ∨ ks[t]! = 4 ∨ ks[t]! = 5 ∨ ks[t]! = 6 := by have := hq t ht; omega
    rcases hkey with e | e | e | e | e | e
    · have ld : aload Try.prog 3 Hx (elemAt k t) = some (.int .i64 1) := by
        have := ints_load (Row.keep hke kx : Ints Hx k ks) (i := (t : Int)) (by omega) (by omega)
        rwa [hxt, e] at this
      repeat' first
        | refine CO.cons rfl ?_
        | refine CO.nil ?_
        | refine CV.seq ?_
        | refine CV.region callees ?_
        | refine CV.cond ?_
        | refine CV.block ?_
        | refine CV.skip ?_
        | refine CV.exit ?_
        | refine CV.ret ?_
        | refine CV.scope ?_
        | refine CV.draw callees rfl ?_
        | refine CH.cons rfl ?_
        | refine CH.nil ?_
        | refine CO.consG rfl ?_
        | refine CH.consG rfl ?_
        | refine CG.cons rfl ?_
        | refine CR.cons ?_
        | refine CR.nil ?_
        | refine CG.nil ?_
        | refine CG.consG rfl ?_
        | refine ⟨(rfl : plain _ = true), ?_⟩
        | refine ⟨(rfl : nilOk _ = some _), ?_⟩
        | refine ⟨_, ints_len (by assumption), ?_⟩
        | refine ⟨_, ints_addr (by assumption) (by omega) (by omega), ?_⟩
        | refine ⟨_, ints_load (by assumption) (by omega) (by omega), ?_⟩
        | refine ⟨(⟨by omega, by omega⟩ : inI64 _), ?_⟩
        | refine ⟨_, fun tm ha => step1_max rfl (ev_tmp ha rfl) (ev_tmp ha rfl), ?_⟩
        | refine ⟨_, fun tm ha => step1_min rfl (ev_tmp ha rfl) (ev_tmp ha rfl), ?_⟩
        | refine ⟨_, ad, ?_⟩
        | refine ⟨_, ld, ?_⟩
        | refine CV.wide callees rfl [0, 1, 2, 3, 5, 6, 7, 8, 4, 9, 10, 11] (by kernel_rfl) ?_
        | (refine ⟨_, addrM (by decide) (by decide), ?_⟩)
        | (refine ⟨_, cell_load ag126 hgmx rfl, ?_⟩)
        | (refine ⟨_, loadG hgax, ?_⟩)
        | (refine ⟨_, loadG hgbx, ?_⟩)
        | (refine ⟨fun _ => ?_, fun _ => ?_⟩ <;> first | (exfalso; omega) | skip)
        | fail
      refine (amt1_spec (Nat.le_refl _)).mono ?_
      rintro r H1 ⟨rfl, k1⟩
      have l1 := k1.1
      repeat' first
        | refine CO.cons rfl ?_
        | refine CO.nil ?_
        | refine CV.seq ?_
        | refine CV.region callees ?_
        | refine CV.cond ?_
        | refine CV.block ?_
        | refine CV.skip ?_
        | refine CV.exit ?_
        | refine CV.ret ?_
        | refine CV.scope ?_
        | refine CV.draw callees rfl ?_
        | refine CH.cons rfl ?_
        | refine CH.nil ?_
        | refine CO.consG rfl ?_
        | refine CH.consG rfl ?_
        | refine CG.cons rfl ?_
        | refine CR.cons ?_
        | refine CR.nil ?_
        | refine CG.nil ?_
        | refine CG.consG rfl ?_
        | refine ⟨(rfl : plain _ = true), ?_⟩
        | refine ⟨(rfl : nilOk _ = some _), ?_⟩
        | refine ⟨_, ints_len (by assumption), ?_⟩
        | refine ⟨_, ints_addr (by assumption) (by omega) (by omega), ?_⟩
        | refine ⟨_, ints_load (by assumption) (by omega) (by omega), ?_⟩
        | refine ⟨(⟨by omega, by omega⟩ : inI64 _), ?_⟩
        | refine ⟨_, fun tm ha => step1_max rfl (ev_tmp ha rfl) (ev_tmp ha rfl), ?_⟩
        | refine ⟨_, fun tm ha => step1_min rfl (ev_tmp ha rfl) (ev_tmp ha rfl), ?_⟩
        | (refine ⟨fun _ => ?_, fun _ => ?_⟩ <;> first | (exfalso; omega) | skip)
        | fail
      refine (amt1_spec (Nat.le_refl _)).mono ?_
      rintro r H2 ⟨rfl, k2⟩
      have l2 := k2.1
      repeat' first
        | refine CO.cons rfl ?_
        | refine CO.nil ?_
        | refine CV.seq ?_
        | refine CV.region callees ?_
        | refine CV.cond ?_
        | refine CV.block ?_
        | refine CV.skip ?_
        | refine CV.exit ?_
        | refine CV.ret ?_
        | refine CV.scope ?_
        | refine CV.draw callees rfl ?_
        | refine CH.cons rfl ?_
        | refine CH.nil ?_
        | refine CO.consG rfl ?_
        | refine CH.consG rfl ?_
        | refine CG.cons rfl ?_
        | refine CR.cons ?_
        | refine CR.nil ?_
        | refine CG.nil ?_
        | refine CG.consG rfl ?_
        | refine ⟨(rfl : plain _ = true), ?_⟩
        | refine ⟨(rfl : nilOk _ = some _), ?_⟩
        | refine ⟨_, ints_len (by assumption), ?_⟩
        | refine ⟨_, ints_addr (by assumption) (by omega) (by omega), ?_⟩
        | refine ⟨_, ints_load (by assumption) (by omega) (by omega), ?_⟩
        | refine ⟨(⟨by omega, by omega⟩ : inI64 _), ?_⟩
        | refine ⟨_, fun tm ha => step1_max rfl (ev_tmp ha rfl) (ev_tmp ha rfl), ?_⟩
        | refine ⟨_, fun tm ha => step1_min rfl (ev_tmp ha rfl) (ev_tmp ha rfl), ?_⟩
        | (refine ⟨fun _ => ?_, fun _ => ?_⟩ <;> first | (exfalso; omega) | skip)
        | fail
      refine (cmp_spec (Nat.le_refl _)).mono ?_
      rintro r H3 ⟨rfl, rfl⟩
      have hd := bef_drop (f := amt x i) (g := amt y j) ht
      rw [e] at hd
      have kz := kx.trans (k1.trans k2)
      by_cases heq : amt x i 1 = amt y j 1
      · rw [if_pos heq] at hd
        have hc0 : cmpI (amt x i 1) (amt y j 1) = 0 := by rw [cmpI, if_neg (by omega), if_neg (by omega)]
        repeat' first
          | refine CO.cons rfl ?_
          | refine CO.nil ?_
          | refine CV.seq ?_
          | refine CV.region callees ?_
          | refine CV.cond ?_
          | refine CV.block ?_
          | refine CV.skip ?_
          | refine CV.exit ?_
          | refine CV.ret ?_
          | refine CV.scope ?_
          | refine CV.draw callees rfl ?_
          | refine CH.cons rfl ?_
          | refine CH.nil ?_
          | refine CO.consG rfl ?_
          | refine CH.consG rfl ?_
          | refine CG.cons rfl ?_
          | refine CR.cons ?_
          | refine CR.nil ?_
          | refine CG.nil ?_
          | refine CG.consG rfl ?_
          | refine ⟨(rfl : plain _ = true), ?_⟩
          | refine ⟨(rfl : nilOk _ = some _), ?_⟩
          | refine ⟨_, ints_len (by assumption), ?_⟩
          | refine ⟨_, ints_addr (by assumption) (by omega) (by omega), ?_⟩
          | refine ⟨_, ints_load (by assumption) (by omega) (by omega), ?_⟩
          | refine ⟨(⟨by omega, by omega⟩ : inI64 _), ?_⟩
          | refine ⟨_, fun tm ha => step1_max rfl (ev_tmp ha rfl) (ev_tmp ha rfl), ?_⟩
          | refine ⟨_, fun tm ha => step1_min rfl (ev_tmp ha rfl) (ev_tmp ha rfl), ?_⟩
          | (refine ⟨fun _ => ?_, fun _ => ?_⟩ <;> first | (exfalso; omega) | skip)
          | fail
        refine ⟨(t + 1), (by repeat' first | exact trivial | refine ⟨rfl, ?_⟩ | refine ⟨slot_int (by (try simp only [Int.toNat_natCast]); omega), ?_⟩), (by (try dsimp only); omega), ?_⟩
        exact ⟨by omega, kz, by rw [hbf, hd]⟩
      · rw [if_neg heq] at hd
        have hc0 : cmpI (amt x i 1) (amt y j 1) ≠ 0 := by
          rw [cmpI]; split
          · decide
          · rw [if_pos (by omega)]; decide
        have hc1 : 0 < cmpI (amt x i 1) (amt y j 1) ↔ amt y j 1 < amt x i 1 := by
          rw [cmpI]; split
          · omega
          · split <;> omega
        repeat' first
          | refine CO.cons rfl ?_
          | refine CO.nil ?_
          | refine CV.seq ?_
          | refine CV.region callees ?_
          | refine CV.cond ?_
          | refine CV.block ?_
          | refine CV.skip ?_
          | refine CV.exit ?_
          | refine CV.ret ?_
          | refine CV.scope ?_
          | refine CV.draw callees rfl ?_
          | refine CH.cons rfl ?_
          | refine CH.nil ?_
          | refine CO.consG rfl ?_
          | refine CH.consG rfl ?_
          | refine CG.cons rfl ?_
          | refine CR.cons ?_
          | refine CR.nil ?_
          | refine CG.nil ?_
          | refine CG.consG rfl ?_
          | refine ⟨(rfl : plain _ = true), ?_⟩
          | refine ⟨(rfl : nilOk _ = some _), ?_⟩
          | refine ⟨_, ints_len (by assumption), ?_⟩
          | refine ⟨_, ints_addr (by assumption) (by omega) (by omega), ?_⟩
          | refine ⟨_, ints_load (by assumption) (by omega) (by omega), ?_⟩
          | refine ⟨(⟨by omega, by omega⟩ : inI64 _), ?_⟩
          | refine ⟨_, fun tm ha => step1_max rfl (ev_tmp ha rfl) (ev_tmp ha rfl), ?_⟩
          | refine ⟨_, fun tm ha => step1_min rfl (ev_tmp ha rfl) (ev_tmp ha rfl), ?_⟩
          | (refine ⟨fun _ => ?_, fun _ => ?_⟩ <;> first | (exfalso; omega) | skip)
          | fail
        · exact ⟨rfl, by rw [hbf, hd, decide_eq_true (by omega)], kh.trans kz⟩
        · exact ⟨rfl, by rw [hbf, hd, decide_eq_false (by omega)], kh.trans kz⟩
    · have ld : aload Try.prog 3 Hx (elemAt k t) = some (.int .i64 2) := by
        have := ints_load (Row.keep hke kx : Ints Hx k ks) (i := (t : Int)) (by omega) (by omega)
        rwa [hxt, e] at this
      repeat' first
        | refine CO.cons rfl ?_
        | refine CO.nil ?_
        | refine CV.seq ?_
        | refine CV.region callees ?_
        | refine CV.cond ?_
        | refine CV.block ?_
        | refine CV.skip ?_
        | refine CV.exit ?_
        | refine CV.ret ?_
        | refine CV.scope ?_
        | refine CV.draw callees rfl ?_
        | refine CH.cons rfl ?_
        | refine CH.nil ?_
        | refine CO.consG rfl ?_
        | refine CH.consG rfl ?_
        | refine CG.cons rfl ?_
        | refine CR.cons ?_
        | refine CR.nil ?_
        | refine CG.nil ?_
        | refine CG.consG rfl ?_
        | refine ⟨(rfl : plain _ = true), ?_⟩
        | refine ⟨(rfl : nilOk _ = some _), ?_⟩
        | refine ⟨_, ints_len (by assumption), ?_⟩
        | refine ⟨_, ints_addr (by assumption) (by omega) (by omega), ?_⟩
        | refine ⟨_, ints_load (by assumption) (by omega) (by omega), ?_⟩
        | refine ⟨(⟨by omega, by omega⟩ : inI64 _), ?_⟩
        | refine ⟨_, fun tm ha => step1_max rfl (ev_tmp ha rfl) (ev_tmp ha rfl), ?_⟩
        | refine ⟨_, fun tm ha => step1_min rfl (ev_tmp ha rfl) (ev_tmp ha rfl), ?_⟩
        | refine ⟨_, ad, ?_⟩
        | refine ⟨_, ld, ?_⟩
        | refine CV.wide callees rfl [0, 1, 2, 3, 5, 6, 7, 8, 4, 9, 10, 11] (by kernel_rfl) ?_
        | (refine ⟨_, addrM (by decide) (by decide), ?_⟩)
        | (refine ⟨_, cell_load ag126 hgmx rfl, ?_⟩)
        | (refine ⟨_, loadG hgax, ?_⟩)
        | (refine ⟨_, loadG hgbx, ?_⟩)
        | (refine ⟨fun _ => ?_, fun _ => ?_⟩ <;> first | (exfalso; omega) | skip)
        | fail
      refine (amt2_spec (Nat.le_refl _)).mono ?_
      rintro r H1 ⟨rfl, k1⟩
      have l1 := k1.1
      repeat' first
        | refine CO.cons rfl ?_
        | refine CO.nil ?_
        | refine CV.seq ?_
        | refine CV.region callees ?_
        | refine CV.cond ?_
        | refine CV.block ?_
        | refine CV.skip ?_
        | refine CV.exit ?_
        | refine CV.ret ?_
        | refine CV.scope ?_
        | refine CV.draw callees rfl ?_
        | refine CH.cons rfl ?_
        | refine CH.nil ?_
        | refine CO.consG rfl ?_
        | refine CH.consG rfl ?_
        | refine CG.cons rfl ?_
        | refine CR.cons ?_
        | refine CR.nil ?_
        | refine CG.nil ?_
        | refine CG.consG rfl ?_
        | refine ⟨(rfl : plain _ = true), ?_⟩
        | refine ⟨(rfl : nilOk _ = some _), ?_⟩
        | refine ⟨_, ints_len (by assumption), ?_⟩
        | refine ⟨_, ints_addr (by assumption) (by omega) (by omega), ?_⟩
        | refine ⟨_, ints_load (by assumption) (by omega) (by omega), ?_⟩
        | refine ⟨(⟨by omega, by omega⟩ : inI64 _), ?_⟩
        | refine ⟨_, fun tm ha => step1_max rfl (ev_tmp ha rfl) (ev_tmp ha rfl), ?_⟩
        | refine ⟨_, fun tm ha => step1_min rfl (ev_tmp ha rfl) (ev_tmp ha rfl), ?_⟩
        | (refine ⟨fun _ => ?_, fun _ => ?_⟩ <;> first | (exfalso; omega) | skip)
        | fail
      refine (amt2_spec (Nat.le_refl _)).mono ?_
      rintro r H2 ⟨rfl, k2⟩
      have l2 := k2.1
      repeat' first
        | refine CO.cons rfl ?_
        | refine CO.nil ?_
        | refine CV.seq ?_
        | refine CV.region callees ?_
        | refine CV.cond ?_
        | refine CV.block ?_
        | refine CV.skip ?_
        | refine CV.exit ?_
        | refine CV.ret ?_
        | refine CV.scope ?_
        | refine CV.draw callees rfl ?_
        | refine CH.cons rfl ?_
        | refine CH.nil ?_
        | refine CO.consG rfl ?_
        | refine CH.consG rfl ?_
        | refine CG.cons rfl ?_
        | refine CR.cons ?_
        | refine CR.nil ?_
        | refine CG.nil ?_
        | refine CG.consG rfl ?_
        | refine ⟨(rfl : plain _ = true), ?_⟩
        | refine ⟨(rfl : nilOk _ = some _), ?_⟩
        | refine ⟨_, ints_len (by assumption), ?_⟩
        | refine ⟨_, ints_addr (by assumption) (by omega) (by omega), ?_⟩
        | refine ⟨_, ints_load (by assumption) (by omega) (by omega), ?_⟩
        | refine ⟨(⟨by omega, by omega⟩ : inI64 _), ?_⟩
        | refine ⟨_, fun tm ha => step1_max rfl (ev_tmp ha rfl) (ev_tmp ha rfl), ?_⟩
        | refine ⟨_, fun tm ha => step1_min rfl (ev_tmp ha rfl) (ev_tmp ha rfl), ?_⟩
        | (refine ⟨fun _ => ?_, fun _ => ?_⟩ <;> first | (exfalso; omega) | skip)
        | fail
      refine (cmp_spec (Nat.le_refl _)).mono ?_
      rintro r H3 ⟨rfl, rfl⟩
      have hd := bef_drop (f := amt x i) (g := amt y j) ht
      rw [e] at hd
      have kz := kx.trans (k1.trans k2)
      by_cases heq : amt x i 2 = amt y j 2
      · rw [if_pos heq] at hd
        have hc0 : cmpI (amt x i 2) (amt y j 2) = 0 := by rw [cmpI, if_neg (by omega), if_neg (by omega)]
        repeat' first
          | refine CO.cons rfl ?_
          | refine CO.nil ?_
          | refine CV.seq ?_
          | refine CV.region callees ?_
          | refine CV.cond ?_
          | refine CV.block ?_
          | refine CV.skip ?_
          | refine CV.exit ?_
          | refine CV.ret ?_
          | refine CV.scope ?_
          | refine CV.draw callees rfl ?_
          | refine CH.cons rfl ?_
          | refine CH.nil ?_
          | refine CO.consG rfl ?_
          | refine CH.consG rfl ?_
          | refine CG.cons rfl ?_
          | refine CR.cons ?_
          | refine CR.nil ?_
          | refine CG.nil ?_
          | refine CG.consG rfl ?_
          | refine ⟨(rfl : plain _ = true), ?_⟩
          | refine ⟨(rfl : nilOk _ = some _), ?_⟩
          | refine ⟨_, ints_len (by assumption), ?_⟩
          | refine ⟨_, ints_addr (by assumption) (by omega) (by omega), ?_⟩
          | refine ⟨_, ints_load (by assumption) (by omega) (by omega), ?_⟩
          | refine ⟨(⟨by omega, by omega⟩ : inI64 _), ?_⟩
          | refine ⟨_, fun tm ha => step1_max rfl (ev_tmp ha rfl) (ev_tmp ha rfl), ?_⟩
          | refine ⟨_, fun tm ha => step1_min rfl (ev_tmp ha rfl) (ev_tmp ha rfl), ?_⟩
          | (refine ⟨fun _ => ?_, fun _ => ?_⟩ <;> first | (exfalso; omega) | skip)
          | fail
        refine ⟨(t + 1), (by repeat' first | exact trivial | refine ⟨rfl, ?_⟩ | refine ⟨slot_int (by (try simp only [Int.toNat_natCast]); omega), ?_⟩), (by (try dsimp only); omega), ?_⟩
        exact ⟨by omega, kz, by rw [hbf, hd]⟩
      · rw [if_neg heq] at hd
        have hc0 : cmpI (amt x i 2) (amt y j 2) ≠ 0 := by
          rw [cmpI]; split
          · decide
          · rw [if_pos (by omega)]; decide
        have hc1 : 0 < cmpI (amt x i 2) (amt y j 2) ↔ amt y j 2 < amt x i 2 := by
          rw [cmpI]; split
          · omega
          · split <;> omega
        repeat' first
          | refine CO.cons rfl ?_
          | refine CO.nil ?_
          | refine CV.seq ?_
          | refine CV.region callees ?_
          | refine CV.cond ?_
          | refine CV.block ?_
          | refine CV.skip ?_
          | refine CV.exit ?_
          | refine CV.ret ?_
          | refine CV.scope ?_
          | refine CV.draw callees rfl ?_
          | refine CH.cons rfl ?_
          | refine CH.nil ?_
          | refine CO.consG rfl ?_
          | refine CH.consG rfl ?_
          | refine CG.cons rfl ?_
          | refine CR.cons ?_
          | refine CR.nil ?_
          | refine CG.nil ?_
          | refine CG.consG rfl ?_
          | refine ⟨(rfl : plain _ = true), ?_⟩
          | refine ⟨(rfl : nilOk _ = some _), ?_⟩
          | refine ⟨_, ints_len (by assumption), ?_⟩
          | refine ⟨_, ints_addr (by assumption) (by omega) (by omega), ?_⟩
          | refine ⟨_, ints_load (by assumption) (by omega) (by omega), ?_⟩
          | refine ⟨(⟨by omega, by omega⟩ : inI64 _), ?_⟩
          | refine ⟨_, fun tm ha => step1_max rfl (ev_tmp ha rfl) (ev_tmp ha rfl), ?_⟩
          | refine ⟨_, fun tm ha => step1_min rfl (ev_tmp ha rfl) (ev_tmp ha rfl), ?_⟩
          | (refine ⟨fun _ => ?_, fun _ => ?_⟩ <;> first | (exfalso; omega) | skip)
          | fail
        · exact ⟨rfl, by rw [hbf, hd, decide_eq_true (by omega)], kh.trans kz⟩
        · exact ⟨rfl, by rw [hbf, hd, decide_eq_false (by omega)], kh.trans kz⟩
    · have ld : aload Try.prog 3 Hx (elemAt k t) = some (.int .i64 3) := by
        have := ints_load (Row.keep hke kx : Ints Hx k ks) (i := (t : Int)) (by omega) (by omega)
        rwa [hxt, e] at this
      repeat' first
        | refine CO.cons rfl ?_
        | refine CO.nil ?_
        | refine CV.seq ?_
        | refine CV.region callees ?_
        | refine CV.cond ?_
        | refine CV.block ?_
        | refine CV.skip ?_
        | refine CV.exit ?_
        | refine CV.ret ?_
        | refine CV.scope ?_
        | refine CV.draw callees rfl ?_
        | refine CH.cons rfl ?_
        | refine CH.nil ?_
        | refine CO.consG rfl ?_
        | refine CH.consG rfl ?_
        | refine CG.cons rfl ?_
        | refine CR.cons ?_
        | refine CR.nil ?_
        | refine CG.nil ?_
        | refine CG.consG rfl ?_
        | refine ⟨(rfl : plain _ = true), ?_⟩
        | refine ⟨(rfl : nilOk _ = some _), ?_⟩
        | refine ⟨_, ints_len (by assumption), ?_⟩
        | refine ⟨_, ints_addr (by assumption) (by omega) (by omega), ?_⟩
        | refine ⟨_, ints_load (by assumption) (by omega) (by omega), ?_⟩
        | refine ⟨(⟨by omega, by omega⟩ : inI64 _), ?_⟩
        | refine ⟨_, fun tm ha => step1_max rfl (ev_tmp ha rfl) (ev_tmp ha rfl), ?_⟩
        | refine ⟨_, fun tm ha => step1_min rfl (ev_tmp ha rfl) (ev_tmp ha rfl), ?_⟩
        | refine ⟨_, ad, ?_⟩
        | refine ⟨_, ld, ?_⟩
        | refine CV.wide callees rfl [0, 1, 2, 3, 5, 6, 7, 8, 4, 9, 10, 11] (by kernel_rfl) ?_
        | (refine ⟨_, addrM (by decide) (by decide), ?_⟩)
        | (refine ⟨_, cell_load ag126 hgmx rfl, ?_⟩)
        | (refine ⟨_, loadG hgax, ?_⟩)
        | (refine ⟨_, loadG hgbx, ?_⟩)
        | (refine ⟨fun _ => ?_, fun _ => ?_⟩ <;> first | (exfalso; omega) | skip)
        | fail
      refine (amt3_spec (Nat.le_refl _)).mono ?_
      rintro r H1 ⟨rfl, k1⟩
      have l1 := k1.1
      repeat' first
        | refine CO.cons rfl ?_
        | refine CO.nil ?_
        | refine CV.seq ?_
        | refine CV.region callees ?_
        | refine CV.cond ?_
        | refine CV.block ?_
        | refine CV.skip ?_
        | refine CV.exit ?_
        | refine CV.ret ?_
        | refine CV.scope ?_
        | refine CV.draw callees rfl ?_
        | refine CH.cons rfl ?_
        | refine CH.nil ?_
        | refine CO.consG rfl ?_
        | refine CH.consG rfl ?_
        | refine CG.cons rfl ?_
        | refine CR.cons ?_
        | refine CR.nil ?_
        | refine CG.nil ?_
        | refine CG.consG rfl ?_
        | refine ⟨(rfl : plain _ = true), ?_⟩
        | refine ⟨(rfl : nilOk _ = some _), ?_⟩
        | refine ⟨_, ints_len (by assumption), ?_⟩
        | refine ⟨_, ints_addr (by assumption) (by omega) (by omega), ?_⟩
        | refine ⟨_, ints_load (by assumption) (by omega) (by omega), ?_⟩
        | refine ⟨(⟨by omega, by omega⟩ : inI64 _), ?_⟩
        | refine ⟨_, fun tm ha => step1_max rfl (ev_tmp ha rfl) (ev_tmp ha rfl), ?_⟩
        | refine ⟨_, fun tm ha => step1_min rfl (ev_tmp ha rfl) (ev_tmp ha rfl), ?_⟩
        | (refine ⟨fun _ => ?_, fun _ => ?_⟩ <;> first | (exfalso; omega) | skip)
        | fail
      refine (amt3_spec (Nat.le_refl _)).mono ?_
      rintro r H2 ⟨rfl, k2⟩
      have l2 := k2.1
      repeat' first
        | refine CO.cons rfl ?_
        | refine CO.nil ?_
        | refine CV.seq ?_
        | refine CV.region callees ?_
        | refine CV.cond ?_
        | refine CV.block ?_
        | refine CV.skip ?_
        | refine CV.exit ?_
        | refine CV.ret ?_
        | refine CV.scope ?_
        | refine CV.draw callees rfl ?_
        | refine CH.cons rfl ?_
        | refine CH.nil ?_
        | refine CO.consG rfl ?_
        | refine CH.consG rfl ?_
        | refine CG.cons rfl ?_
        | refine CR.cons ?_
        | refine CR.nil ?_
        | refine CG.nil ?_
        | refine CG.consG rfl ?_
        | refine ⟨(rfl : plain _ = true), ?_⟩
        | refine ⟨(rfl : nilOk _ = some _), ?_⟩
        | refine ⟨_, ints_len (by assumption), ?_⟩
        | refine ⟨_, ints_addr (by assumption) (by omega) (by omega), ?_⟩
        | refine ⟨_, ints_load (by assumption) (by omega) (by omega), ?_⟩
        | refine ⟨(⟨by omega, by omega⟩ : inI64 _), ?_⟩
        | refine ⟨_, fun tm ha => step1_max rfl (ev_tmp ha rfl) (ev_tmp ha rfl), ?_⟩
        | refine ⟨_, fun tm ha => step1_min rfl (ev_tmp ha rfl) (ev_tmp ha rfl), ?_⟩
        | (refine ⟨fun _ => ?_, fun _ => ?_⟩ <;> first | (exfalso; omega) | skip)
        | fail
      refine (cmp_spec (Nat.le_refl _)).mono ?_
      rintro r H3 ⟨rfl, rfl⟩
      have hd := bef_drop (f := amt x i) (g := amt y j) ht
      rw [e] at hd
      have kz := kx.trans (k1.trans k2)
      by_cases heq : amt x i 3 = amt y j 3
      · rw [if_pos heq] at hd
        have hc0 : cmpI (amt x i 3) (amt y j 3) = 0 := by rw [cmpI, if_neg (by omega), if_neg (by omega)]
        repeat' first
          | refine CO.cons rfl ?_
          | refine CO.nil ?_
          | refine CV.seq ?_
          | refine CV.region callees ?_
          | refine CV.cond ?_
          | refine CV.block ?_
          | refine CV.skip ?_
          | refine CV.exit ?_
          | refine CV.ret ?_
          | refine CV.scope ?_
          | refine CV.draw callees rfl ?_
          | refine CH.cons rfl ?_
          | refine CH.nil ?_
          | refine CO.consG rfl ?_
          | refine CH.consG rfl ?_
          | refine CG.cons rfl ?_
          | refine CR.cons ?_
          | refine CR.nil ?_
          | refine CG.nil ?_
          | refine CG.consG rfl ?_
          | refine ⟨(rfl : plain _ = true), ?_⟩
          | refine ⟨(rfl : nilOk _ = some _), ?_⟩
          | refine ⟨_, ints_len (by assumption), ?_⟩
          | refine ⟨_, ints_addr (by assumption) (by omega) (by omega), ?_⟩
          | refine ⟨_, ints_load (by assumption) (by omega) (by omega), ?_⟩
          | refine ⟨(⟨by omega, by omega⟩ : inI64 _), ?_⟩
          | refine ⟨_, fun tm ha => step1_max rfl (ev_tmp ha rfl) (ev_tmp ha rfl), ?_⟩
          | refine ⟨_, fun tm ha => step1_min rfl (ev_tmp ha rfl) (ev_tmp ha rfl), ?_⟩
          | (refine ⟨fun _ => ?_, fun _ => ?_⟩ <;> first | (exfalso; omega) | skip)
          | fail
        refine ⟨(t + 1), (by repeat' first | exact trivial | refine ⟨rfl, ?_⟩ | refine ⟨slot_int (by (try simp only [Int.toNat_natCast]); omega), ?_⟩), (by (try dsimp only); omega), ?_⟩
        exact ⟨by omega, kz, by rw [hbf, hd]⟩
      · rw [if_neg heq] at hd
        have hc0 : cmpI (amt x i 3) (amt y j 3) ≠ 0 := by
          rw [cmpI]; split
          · decide
          · rw [if_pos (by omega)]; decide
        have hc1 : 0 < cmpI (amt x i 3) (amt y j 3) ↔ amt y j 3 < amt x i 3 := by
          rw [cmpI]; split
          · omega
          · split <;> omega
        repeat' first
          | refine CO.cons rfl ?_
          | refine CO.nil ?_
          | refine CV.seq ?_
          | refine CV.region callees ?_
          | refine CV.cond ?_
          | refine CV.block ?_
          | refine CV.skip ?_
          | refine CV.exit ?_
          | refine CV.ret ?_
          | refine CV.scope ?_
          | refine CV.draw callees rfl ?_
          | refine CH.cons rfl ?_
          | refine CH.nil ?_
          | refine CO.consG rfl ?_
          | refine CH.consG rfl ?_
          | refine CG.cons rfl ?_
          | refine CR.cons ?_
          | refine CR.nil ?_
          | refine CG.nil ?_
          | refine CG.consG rfl ?_
          | refine ⟨(rfl : plain _ = true), ?_⟩
          | refine ⟨(rfl : nilOk _ = some _), ?_⟩
          | refine ⟨_, ints_len (by assumption), ?_⟩
          | refine ⟨_, ints_addr (by assumption) (by omega) (by omega), ?_⟩
          | refine ⟨_, ints_load (by assumption) (by omega) (by omega), ?_⟩
          | refine ⟨(⟨by omega, by omega⟩ : inI64 _), ?_⟩
          | refine ⟨_, fun tm ha => step1_max rfl (ev_tmp ha rfl) (ev_tmp ha rfl), ?_⟩
          | refine ⟨_, fun tm ha => step1_min rfl (ev_tmp ha rfl) (ev_tmp ha rfl), ?_⟩
          | (refine ⟨fun _ => ?_, fun _ => ?_⟩ <;> first | (exfalso; omega) | skip)
          | fail
        · exact ⟨rfl, by rw [hbf, hd, decide_eq_true (by omega)], kh.trans kz⟩
        · exact ⟨rfl, by rw [hbf, hd, decide_eq_false (by omega)], kh.trans kz⟩
    · have ld : aload Try.prog 3 Hx (elemAt k t) = some (.int .i64 4) := by
        have := ints_load (Row.keep hke kx : Ints Hx k ks) (i := (t : Int)) (by omega) (by omega)
        rwa [hxt, e] at this
      repeat' first
        | refine CO.cons rfl ?_
        | refine CO.nil ?_
        | refine CV.seq ?_
        | refine CV.region callees ?_
        | refine CV.cond ?_
        | refine CV.block ?_
        | refine CV.skip ?_
        | refine CV.exit ?_
        | refine CV.ret ?_
        | refine CV.scope ?_
        | refine CV.draw callees rfl ?_
        | refine CH.cons rfl ?_
        | refine CH.nil ?_
        | refine CO.consG rfl ?_
        | refine CH.consG rfl ?_
        | refine CG.cons rfl ?_
        | refine CR.cons ?_
        | refine CR.nil ?_
        | refine CG.nil ?_
        | refine CG.consG rfl ?_
        | refine ⟨(rfl : plain _ = true), ?_⟩
        | refine ⟨(rfl : nilOk _ = some _), ?_⟩
        | refine ⟨_, ints_len (by assumption), ?_⟩
        | refine ⟨_, ints_addr (by assumption) (by omega) (by omega), ?_⟩
        | refine ⟨_, ints_load (by assumption) (by omega) (by omega), ?_⟩
        | refine ⟨(⟨by omega, by omega⟩ : inI64 _), ?_⟩
        | refine ⟨_, fun tm ha => step1_max rfl (ev_tmp ha rfl) (ev_tmp ha rfl), ?_⟩
        | refine ⟨_, fun tm ha => step1_min rfl (ev_tmp ha rfl) (ev_tmp ha rfl), ?_⟩
        | refine ⟨_, ad, ?_⟩
        | refine ⟨_, ld, ?_⟩
        | refine CV.wide callees rfl [0, 1, 2, 3, 5, 6, 7, 8, 4, 9, 10, 11] (by kernel_rfl) ?_
        | (refine ⟨_, addrM (by decide) (by decide), ?_⟩)
        | (refine ⟨_, cell_load ag126 hgmx rfl, ?_⟩)
        | (refine ⟨_, loadG hgax, ?_⟩)
        | (refine ⟨_, loadG hgbx, ?_⟩)
        | (refine ⟨fun _ => ?_, fun _ => ?_⟩ <;> first | (exfalso; omega) | skip)
        | fail
      refine (amt4_spec (Nat.le_refl _)).mono ?_
      rintro r H1 ⟨rfl, k1⟩
      have l1 := k1.1
      repeat' first
        | refine CO.cons rfl ?_
        | refine CO.nil ?_
        | refine CV.seq ?_
        | refine CV.region callees ?_
        | refine CV.cond ?_
        | refine CV.block ?_
        | refine CV.skip ?_
        | refine CV.exit ?_
        | refine CV.ret ?_
        | refine CV.scope ?_
        | refine CV.draw callees rfl ?_
        | refine CH.cons rfl ?_
        | refine CH.nil ?_
        | refine CO.consG rfl ?_
        | refine CH.consG rfl ?_
        | refine CG.cons rfl ?_
        | refine CR.cons ?_
        | refine CR.nil ?_
        | refine CG.nil ?_
        | refine CG.consG rfl ?_
        | refine ⟨(rfl : plain _ = true), ?_⟩
        | refine ⟨(rfl : nilOk _ = some _), ?_⟩
        | refine ⟨_, ints_len (by assumption), ?_⟩
        | refine ⟨_, ints_addr (by assumption) (by omega) (by omega), ?_⟩
        | refine ⟨_, ints_load (by assumption) (by omega) (by omega), ?_⟩
        | refine ⟨(⟨by omega, by omega⟩ : inI64 _), ?_⟩
        | refine ⟨_, fun tm ha => step1_max rfl (ev_tmp ha rfl) (ev_tmp ha rfl), ?_⟩
        | refine ⟨_, fun tm ha => step1_min rfl (ev_tmp ha rfl) (ev_tmp ha rfl), ?_⟩
        | (refine ⟨fun _ => ?_, fun _ => ?_⟩ <;> first | (exfalso; omega) | skip)
        | fail
      refine (amt4_spec (Nat.le_refl _)).mono ?_
      rintro r H2 ⟨rfl, k2⟩
      have l2 := k2.1
      repeat' first
        | refine CO.cons rfl ?_
        | refine CO.nil ?_
        | refine CV.seq ?_
        | refine CV.region callees ?_
        | refine CV.cond ?_
        | refine CV.block ?_
        | refine CV.skip ?_
        | refine CV.exit ?_
        | refine CV.ret ?_
        | refine CV.scope ?_
        | refine CV.draw callees rfl ?_
        | refine CH.cons rfl ?_
        | refine CH.nil ?_
        | refine CO.consG rfl ?_
        | refine CH.consG rfl ?_
        | refine CG.cons rfl ?_
        | refine CR.cons ?_
        | refine CR.nil ?_
        | refine CG.nil ?_
        | refine CG.consG rfl ?_
        | refine ⟨(rfl : plain _ = true), ?_⟩
        | refine ⟨(rfl : nilOk _ = some _), ?_⟩
        | refine ⟨_, ints_len (by assumption), ?_⟩
        | refine ⟨_, ints_addr (by assumption) (by omega) (by omega), ?_⟩
        | refine ⟨_, ints_load (by assumption) (by omega) (by omega), ?_⟩
        | refine ⟨(⟨by omega, by omega⟩ : inI64 _), ?_⟩
        | refine ⟨_, fun tm ha => step1_max rfl (ev_tmp ha rfl) (ev_tmp ha rfl), ?_⟩
        | refine ⟨_, fun tm ha => step1_min rfl (ev_tmp ha rfl) (ev_tmp ha rfl), ?_⟩
        | (refine ⟨fun _ => ?_, fun _ => ?_⟩ <;> first | (exfalso; omega) | skip)
        | fail
      refine (cmp_spec (Nat.le_refl _)).mono ?_
      rintro r H3 ⟨rfl, rfl⟩
      have hd := bef_drop (f := amt x i) (g := amt y j) ht
      rw [e] at hd
      have kz := kx.trans (k1.trans k2)
      by_cases heq : amt x i 4 = amt y j 4
      · rw [if_pos heq] at hd
        have hc0 : cmpI (amt x i 4) (amt y j 4) = 0 := by rw [cmpI, if_neg (by omega), if_neg (by omega)]
        repeat' first
          | refine CO.cons rfl ?_
          | refine CO.nil ?_
          | refine CV.seq ?_
          | refine CV.region callees ?_
          | refine CV.cond ?_
          | refine CV.block ?_
          | refine CV.skip ?_
          | refine CV.exit ?_
          | refine CV.ret ?_
          | refine CV.scope ?_
          | refine CV.draw callees rfl ?_
          | refine CH.cons rfl ?_
          | refine CH.nil ?_
          | refine CO.consG rfl ?_
          | refine CH.consG rfl ?_
          | refine CG.cons rfl ?_
          | refine CR.cons ?_
          | refine CR.nil ?_
          | refine CG.nil ?_
          | refine CG.consG rfl ?_
          | refine ⟨(rfl : plain _ = true), ?_⟩
          | refine ⟨(rfl : nilOk _ = some _), ?_⟩
          | refine ⟨_, ints_len (by assumption), ?_⟩
          | refine ⟨_, ints_addr (by assumption) (by omega) (by omega), ?_⟩
          | refine ⟨_, ints_load (by assumption) (by omega) (by omega), ?_⟩
          | refine ⟨(⟨by omega, by omega⟩ : inI64 _), ?_⟩
          | refine ⟨_, fun tm ha => step1_max rfl (ev_tmp ha rfl) (ev_tmp ha rfl), ?_⟩
          | refine ⟨_, fun tm ha => step1_min rfl (ev_tmp ha rfl) (ev_tmp ha rfl), ?_⟩
          | (refine ⟨fun _ => ?_, fun _ => ?_⟩ <;> first | (exfalso; omega) | skip)
          | fail
        refine ⟨(t + 1), (by repeat' first | exact trivial | refine ⟨rfl, ?_⟩ | refine ⟨slot_int (by (try simp only [Int.toNat_natCast]); omega), ?_⟩), (by (try dsimp only); omega), ?_⟩
        exact ⟨by omega, kz, by rw [hbf, hd]⟩
      · rw [if_neg heq] at hd
        have hc0 : cmpI (amt x i 4) (amt y j 4) ≠ 0 := by
          rw [cmpI]; split
          · decide
          · rw [if_pos (by omega)]; decide
        have hc1 : 0 < cmpI (amt x i 4) (amt y j 4) ↔ amt y j 4 < amt x i 4 := by
          rw [cmpI]; split
          · omega
          · split <;> omega
        repeat' first
          | refine CO.cons rfl ?_
          | refine CO.nil ?_
          | refine CV.seq ?_
          | refine CV.region callees ?_
          | refine CV.cond ?_
          | refine CV.block ?_
          | refine CV.skip ?_
          | refine CV.exit ?_
          | refine CV.ret ?_
          | refine CV.scope ?_
          | refine CV.draw callees rfl ?_
          | refine CH.cons rfl ?_
          | refine CH.nil ?_
          | refine CO.consG rfl ?_
          | refine CH.consG rfl ?_
          | refine CG.cons rfl ?_
          | refine CR.cons ?_
          | refine CR.nil ?_
          | refine CG.nil ?_
          | refine CG.consG rfl ?_
          | refine ⟨(rfl : plain _ = true), ?_⟩
          | refine ⟨(rfl : nilOk _ = some _), ?_⟩
          | refine ⟨_, ints_len (by assumption), ?_⟩
          | refine ⟨_, ints_addr (by assumption) (by omega) (by omega), ?_⟩
          | refine ⟨_, ints_load (by assumption) (by omega) (by omega), ?_⟩
          | refine ⟨(⟨by omega, by omega⟩ : inI64 _), ?_⟩
          | refine ⟨_, fun tm ha => step1_max rfl (ev_tmp ha rfl) (ev_tmp ha rfl), ?_⟩
          | refine ⟨_, fun tm ha => step1_min rfl (ev_tmp ha rfl) (ev_tmp ha rfl), ?_⟩
          | (refine ⟨fun _ => ?_, fun _ => ?_⟩ <;> first | (exfalso; omega) | skip)
          | fail
        · exact ⟨rfl, by rw [hbf, hd, decide_eq_true (by omega)], kh.trans kz⟩
        · exact ⟨rfl, by rw [hbf, hd, decide_eq_false (by omega)], kh.trans kz⟩
    · have ld : aload Try.prog 3 Hx (elemAt k t) = some (.int .i64 5) := by
        have := ints_load (Row.keep hke kx : Ints Hx k ks) (i := (t : Int)) (by omega) (by omega)
        rwa [hxt, e] at this
      repeat' first
        | refine CO.cons rfl ?_
        | refine CO.nil ?_
        | refine CV.seq ?_
        | refine CV.region callees ?_
        | refine CV.cond ?_
        | refine CV.block ?_
        | refine CV.skip ?_
        | refine CV.exit ?_
        | refine CV.ret ?_
        | refine CV.scope ?_
        | refine CV.draw callees rfl ?_
        | refine CH.cons rfl ?_
        | refine CH.nil ?_
        | refine CO.consG rfl ?_
        | refine CH.consG rfl ?_
        | refine CG.cons rfl ?_
        | refine CR.cons ?_
        | refine CR.nil ?_
        | refine CG.nil ?_
        | refine CG.consG rfl ?_
        | refine ⟨(rfl : plain _ = true), ?_⟩
        | refine ⟨(rfl : nilOk _ = some _), ?_⟩
        | refine ⟨_, ints_len (by assumption), ?_⟩
        | refine ⟨_, ints_addr (by assumption) (by omega) (by omega), ?_⟩
        | refine ⟨_, ints_load (by assumption) (by omega) (by omega), ?_⟩
        | refine ⟨(⟨by omega, by omega⟩ : inI64 _), ?_⟩
        | refine ⟨_, fun tm ha => step1_max rfl (ev_tmp ha rfl) (ev_tmp ha rfl), ?_⟩
        | refine ⟨_, fun tm ha => step1_min rfl (ev_tmp ha rfl) (ev_tmp ha rfl), ?_⟩
        | refine ⟨_, ad, ?_⟩
        | refine ⟨_, ld, ?_⟩
        | refine CV.wide callees rfl [0, 1, 2, 3, 5, 6, 7, 8, 4, 9, 10, 11] (by kernel_rfl) ?_
        | (refine ⟨_, addrM (by decide) (by decide), ?_⟩)
        | (refine ⟨_, cell_load ag126 hgmx rfl, ?_⟩)
        | (refine ⟨_, loadG hgax, ?_⟩)
        | (refine ⟨_, loadG hgbx, ?_⟩)
        | (refine ⟨fun _ => ?_, fun _ => ?_⟩ <;> first | (exfalso; omega) | skip)
        | fail
      refine (amt5_spec (Nat.le_refl _)).mono ?_
      rintro r H1 ⟨rfl, k1⟩
      have l1 := k1.1
      repeat' first
        | refine CO.cons rfl ?_
        | refine CO.nil ?_
        | refine CV.seq ?_
        | refine CV.region callees ?_
        | refine CV.cond ?_
        | refine CV.block ?_
        | refine CV.skip ?_
        | refine CV.exit ?_
        | refine CV.ret ?_
        | refine CV.scope ?_
        | refine CV.draw callees rfl ?_
        | refine CH.cons rfl ?_
        | refine CH.nil ?_
        | refine CO.consG rfl ?_
        | refine CH.consG rfl ?_
        | refine CG.cons rfl ?_
        | refine CR.cons ?_
        | refine CR.nil ?_
        | refine CG.nil ?_
        | refine CG.consG rfl ?_
        | refine ⟨(rfl : plain _ = true), ?_⟩
        | refine ⟨(rfl : nilOk _ = some _), ?_⟩
        | refine ⟨_, ints_len (by assumption), ?_⟩
        | refine ⟨_, ints_addr (by assumption) (by omega) (by omega), ?_⟩
        | refine ⟨_, ints_load (by assumption) (by omega) (by omega), ?_⟩
        | refine ⟨(⟨by omega, by omega⟩ : inI64 _), ?_⟩
        | refine ⟨_, fun tm ha => step1_max rfl (ev_tmp ha rfl) (ev_tmp ha rfl), ?_⟩
        | refine ⟨_, fun tm ha => step1_min rfl (ev_tmp ha rfl) (ev_tmp ha rfl), ?_⟩
        | (refine ⟨fun _ => ?_, fun _ => ?_⟩ <;> first | (exfalso; omega) | skip)
        | fail
      refine (amt5_spec (Nat.le_refl _)).mono ?_
      rintro r H2 ⟨rfl, k2⟩
      have l2 := k2.1
      repeat' first
        | refine CO.cons rfl ?_
        | refine CO.nil ?_
        | refine CV.seq ?_
        | refine CV.region callees ?_
        | refine CV.cond ?_
        | refine CV.block ?_
        | refine CV.skip ?_
        | refine CV.exit ?_
        | refine CV.ret ?_
        | refine CV.scope ?_
        | refine CV.draw callees rfl ?_
        | refine CH.cons rfl ?_
        | refine CH.nil ?_
        | refine CO.consG rfl ?_
        | refine CH.consG rfl ?_
        | refine CG.cons rfl ?_
        | refine CR.cons ?_
        | refine CR.nil ?_
        | refine CG.nil ?_
        | refine CG.consG rfl ?_
        | refine ⟨(rfl : plain _ = true), ?_⟩
        | refine ⟨(rfl : nilOk _ = some _), ?_⟩
        | refine ⟨_, ints_len (by assumption), ?_⟩
        | refine ⟨_, ints_addr (by assumption) (by omega) (by omega), ?_⟩
        | refine ⟨_, ints_load (by assumption) (by omega) (by omega), ?_⟩
        | refine ⟨(⟨by omega, by omega⟩ : inI64 _), ?_⟩
        | refine ⟨_, fun tm ha => step1_max rfl (ev_tmp ha rfl) (ev_tmp ha rfl), ?_⟩
        | refine ⟨_, fun tm ha => step1_min rfl (ev_tmp ha rfl) (ev_tmp ha rfl), ?_⟩
        | (refine ⟨fun _ => ?_, fun _ => ?_⟩ <;> first | (exfalso; omega) | skip)
        | fail
      refine (cmp_spec (Nat.le_refl _)).mono ?_
      rintro r H3 ⟨rfl, rfl⟩
      have hd := bef_drop (f := amt x i) (g := amt y j) ht
      rw [e] at hd
      have kz := kx.trans (k1.trans k2)
      by_cases heq : amt x i 5 = amt y j 5
      · rw [if_pos heq] at hd
        have hc0 : cmpI (amt x i 5) (amt y j 5) = 0 := by rw [cmpI, if_neg (by omega), if_neg (by omega)]
        repeat' first
          | refine CO.cons rfl ?_
          | refine CO.nil ?_
          | refine CV.seq ?_
          | refine CV.region callees ?_
          | refine CV.cond ?_
          | refine CV.block ?_
          | refine CV.skip ?_
          | refine CV.exit ?_
          | refine CV.ret ?_
          | refine CV.scope ?_
          | refine CV.draw callees rfl ?_
          | refine CH.cons rfl ?_
          | refine CH.nil ?_
          | refine CO.consG rfl ?_
          | refine CH.consG rfl ?_
          | refine CG.cons rfl ?_
          | refine CR.cons ?_
          | refine CR.nil ?_
          | refine CG.nil ?_
          | refine CG.consG rfl ?_
          | refine ⟨(rfl : plain _ = true), ?_⟩
          | refine ⟨(rfl : nilOk _ = some _), ?_⟩
          | refine ⟨_, ints_len (by assumption), ?_⟩
          | refine ⟨_, ints_addr (by assumption) (by omega) (by omega), ?_⟩
          | refine ⟨_, ints_load (by assumption) (by omega) (by omega), ?_⟩
          | refine ⟨(⟨by omega, by omega⟩ : inI64 _), ?_⟩
          | refine ⟨_, fun tm ha => step1_max rfl (ev_tmp ha rfl) (ev_tmp ha rfl), ?_⟩
          | refine ⟨_, fun tm ha => step1_min rfl (ev_tmp ha rfl) (ev_tmp ha rfl), ?_⟩
          | (refine ⟨fun _ => ?_, fun _ => ?_⟩ <;> first | (exfalso; omega) | skip)
          | fail
        refine ⟨(t + 1), (by repeat' first | exact trivial | refine ⟨rfl, ?_⟩ | refine ⟨slot_int (by (try simp only [Int.toNat_natCast]); omega), ?_⟩), (by (try dsimp only); omega), ?_⟩
        exact ⟨by omega, kz, by rw [hbf, hd]⟩
      · rw [if_neg heq] at hd
        have hc0 : cmpI (amt x i 5) (amt y j 5) ≠ 0 := by
          rw [cmpI]; split
          · decide
          · rw [if_pos (by omega)]; decide
        have hc1 : 0 < cmpI (amt x i 5) (amt y j 5) ↔ amt y j 5 < amt x i 5 := by
          rw [cmpI]; split
          · omega
          · split <;> omega
        repeat' first
          | refine CO.cons rfl ?_
          | refine CO.nil ?_
          | refine CV.seq ?_
          | refine CV.region callees ?_
          | refine CV.cond ?_
          | refine CV.block ?_
          | refine CV.skip ?_
          | refine CV.exit ?_
          | refine CV.ret ?_
          | refine CV.scope ?_
          | refine CV.draw callees rfl ?_
          | refine CH.cons rfl ?_
          | refine CH.nil ?_
          | refine CO.consG rfl ?_
          | refine CH.consG rfl ?_
          | refine CG.cons rfl ?_
          | refine CR.cons ?_
          | refine CR.nil ?_
          | refine CG.nil ?_
          | refine CG.consG rfl ?_
          | refine ⟨(rfl : plain _ = true), ?_⟩
          | refine ⟨(rfl : nilOk _ = some _), ?_⟩
          | refine ⟨_, ints_len (by assumption), ?_⟩
          | refine ⟨_, ints_addr (by assumption) (by omega) (by omega), ?_⟩
          | refine ⟨_, ints_load (by assumption) (by omega) (by omega), ?_⟩
          | refine ⟨(⟨by omega, by omega⟩ : inI64 _), ?_⟩
          | refine ⟨_, fun tm ha => step1_max rfl (ev_tmp ha rfl) (ev_tmp ha rfl), ?_⟩
          | refine ⟨_, fun tm ha => step1_min rfl (ev_tmp ha rfl) (ev_tmp ha rfl), ?_⟩
          | (refine ⟨fun _ => ?_, fun _ => ?_⟩ <;> first | (exfalso; omega) | skip)
          | fail
        · exact ⟨rfl, by rw [hbf, hd, decide_eq_true (by omega)], kh.trans kz⟩
        · exact ⟨rfl, by rw [hbf, hd, decide_eq_false (by omega)], kh.trans kz⟩
    · have ld : aload Try.prog 3 Hx (elemAt k t) = some (.int .i64 6) := by
        have := ints_load (Row.keep hke kx : Ints Hx k ks) (i := (t : Int)) (by omega) (by omega)
        rwa [hxt, e] at this
      repeat' first
        | refine CO.cons rfl ?_
        | refine CO.nil ?_
        | refine CV.seq ?_
        | refine CV.region callees ?_
        | refine CV.cond ?_
        | refine CV.block ?_
        | refine CV.skip ?_
        | refine CV.exit ?_
        | refine CV.ret ?_
        | refine CV.scope ?_
        | refine CV.draw callees rfl ?_
        | refine CH.cons rfl ?_
        | refine CH.nil ?_
        | refine CO.consG rfl ?_
        | refine CH.consG rfl ?_
        | refine CG.cons rfl ?_
        | refine CR.cons ?_
        | refine CR.nil ?_
        | refine CG.nil ?_
        | refine CG.consG rfl ?_
        | refine ⟨(rfl : plain _ = true), ?_⟩
        | refine ⟨(rfl : nilOk _ = some _), ?_⟩
        | refine ⟨_, ints_len (by assumption), ?_⟩
        | refine ⟨_, ints_addr (by assumption) (by omega) (by omega), ?_⟩
        | refine ⟨_, ints_load (by assumption) (by omega) (by omega), ?_⟩
        | refine ⟨(⟨by omega, by omega⟩ : inI64 _), ?_⟩
        | refine ⟨_, fun tm ha => step1_max rfl (ev_tmp ha rfl) (ev_tmp ha rfl), ?_⟩
        | refine ⟨_, fun tm ha => step1_min rfl (ev_tmp ha rfl) (ev_tmp ha rfl), ?_⟩
        | refine ⟨_, ad, ?_⟩
        | refine ⟨_, ld, ?_⟩
        | refine CV.wide callees rfl [0, 1, 2, 3, 5, 6, 7, 8, 4, 9, 10, 11] (by kernel_rfl) ?_
        | (refine ⟨_, addrM (by decide) (by decide), ?_⟩)
        | (refine ⟨_, cell_load ag126 hgmx rfl, ?_⟩)
        | (refine ⟨_, loadG hgax, ?_⟩)
        | (refine ⟨_, loadG hgbx, ?_⟩)
        | (refine ⟨fun _ => ?_, fun _ => ?_⟩ <;> first | (exfalso; omega) | skip)
        | fail
      refine (amt6_spec (Nat.le_refl _) i0 i1).mono ?_
      rintro r H1 ⟨rfl, k1⟩
      have l1 := k1.1
      repeat' first
        | refine CO.cons rfl ?_
        | refine CO.nil ?_
        | refine CV.seq ?_
        | refine CV.region callees ?_
        | refine CV.cond ?_
        | refine CV.block ?_
        | refine CV.skip ?_
        | refine CV.exit ?_
        | refine CV.ret ?_
        | refine CV.scope ?_
        | refine CV.draw callees rfl ?_
        | refine CH.cons rfl ?_
        | refine CH.nil ?_
        | refine CO.consG rfl ?_
        | refine CH.consG rfl ?_
        | refine CG.cons rfl ?_
        | refine CR.cons ?_
        | refine CR.nil ?_
        | refine CG.nil ?_
        | refine CG.consG rfl ?_
        | refine ⟨(rfl : plain _ = true), ?_⟩
        | refine ⟨(rfl : nilOk _ = some _), ?_⟩
        | refine ⟨_, ints_len (by assumption), ?_⟩
        | refine ⟨_, ints_addr (by assumption) (by omega) (by omega), ?_⟩
        | refine ⟨_, ints_load (by assumption) (by omega) (by omega), ?_⟩
        | refine ⟨(⟨by omega, by omega⟩ : inI64 _), ?_⟩
        | refine ⟨_, fun tm ha => step1_max rfl (ev_tmp ha rfl) (ev_tmp ha rfl), ?_⟩
        | refine ⟨_, fun tm ha => step1_min rfl (ev_tmp ha rfl) (ev_tmp ha rfl), ?_⟩
        | (refine ⟨fun _ => ?_, fun _ => ?_⟩ <;> first | (exfalso; omega) | skip)
        | fail
      refine (amt6_spec (Nat.le_refl _) j0 j1).mono ?_
      rintro r H2 ⟨rfl, k2⟩
      have l2 := k2.1
      repeat' first
        | refine CO.cons rfl ?_
        | refine CO.nil ?_
        | refine CV.seq ?_
        | refine CV.region callees ?_
        | refine CV.cond ?_
        | refine CV.block ?_
        | refine CV.skip ?_
        | refine CV.exit ?_
        | refine CV.ret ?_
        | refine CV.scope ?_
        | refine CV.draw callees rfl ?_
        | refine CH.cons rfl ?_
        | refine CH.nil ?_
        | refine CO.consG rfl ?_
        | refine CH.consG rfl ?_
        | refine CG.cons rfl ?_
        | refine CR.cons ?_
        | refine CR.nil ?_
        | refine CG.nil ?_
        | refine CG.consG rfl ?_
        | refine ⟨(rfl : plain _ = true), ?_⟩
        | refine ⟨(rfl : nilOk _ = some _), ?_⟩
        | refine ⟨_, ints_len (by assumption), ?_⟩
        | refine ⟨_, ints_addr (by assumption) (by omega) (by omega), ?_⟩
        | refine ⟨_, ints_load (by assumption) (by omega) (by omega), ?_⟩
        | refine ⟨(⟨by omega, by omega⟩ : inI64 _), ?_⟩
        | refine ⟨_, fun tm ha => step1_max rfl (ev_tmp ha rfl) (ev_tmp ha rfl), ?_⟩
        | refine ⟨_, fun tm ha => step1_min rfl (ev_tmp ha rfl) (ev_tmp ha rfl), ?_⟩
        | (refine ⟨fun _ => ?_, fun _ => ?_⟩ <;> first | (exfalso; omega) | skip)
        | fail
      refine (cmp_spec (Nat.le_refl _)).mono ?_
      rintro r H3 ⟨rfl, rfl⟩
      have hd := bef_drop (f := amt x i) (g := amt y j) ht
      rw [e] at hd
      have kz := kx.trans (k1.trans k2)
      by_cases heq : amt x i 6 = amt y j 6
      · rw [if_pos heq] at hd
        have hc0 : cmpI (amt x i 6) (amt y j 6) = 0 := by rw [cmpI, if_neg (by omega), if_neg (by omega)]
        repeat' first
          | refine CO.cons rfl ?_
          | refine CO.nil ?_
          | refine CV.seq ?_
          | refine CV.region callees ?_
          | refine CV.cond ?_
          | refine CV.block ?_
          | refine CV.skip ?_
          | refine CV.exit ?_
          | refine CV.ret ?_
          | refine CV.scope ?_
          | refine CV.draw callees rfl ?_
          | refine CH.cons rfl ?_
          | refine CH.nil ?_
          | refine CO.consG rfl ?_
          | refine CH.consG rfl ?_
          | refine CG.cons rfl ?_
          | refine CR.cons ?_
          | refine CR.nil ?_
          | refine CG.nil ?_
          | refine CG.consG rfl ?_
          | refine ⟨(rfl : plain _ = true), ?_⟩
          | refine ⟨(rfl : nilOk _ = some _), ?_⟩
          | refine ⟨_, ints_len (by assumption), ?_⟩
          | refine ⟨_, ints_addr (by assumption) (by omega) (by omega), ?_⟩
          | refine ⟨_, ints_load (by assumption) (by omega) (by omega), ?_⟩
          | refine ⟨(⟨by omega, by omega⟩ : inI64 _), ?_⟩
          | refine ⟨_, fun tm ha => step1_max rfl (ev_tmp ha rfl) (ev_tmp ha rfl), ?_⟩
          | refine ⟨_, fun tm ha => step1_min rfl (ev_tmp ha rfl) (ev_tmp ha rfl), ?_⟩
          | (refine ⟨fun _ => ?_, fun _ => ?_⟩ <;> first | (exfalso; omega) | skip)
          | fail
        refine ⟨(t + 1), (by repeat' first | exact trivial | refine ⟨rfl, ?_⟩ | refine ⟨slot_int (by (try simp only [Int.toNat_natCast]); omega), ?_⟩), (by (try dsimp only); omega), ?_⟩
        exact ⟨by omega, kz, by rw [hbf, hd]⟩
      · rw [if_neg heq] at hd
        have hc0 : cmpI (amt x i 6) (amt y j 6) ≠ 0 := by
          rw [cmpI]; split
          · decide
          · rw [if_pos (by omega)]; decide
        have hc1 : 0 < cmpI (amt x i 6) (amt y j 6) ↔ amt y j 6 < amt x i 6 := by
          rw [cmpI]; split
          · omega
          · split <;> omega
        repeat' first
          | refine CO.cons rfl ?_
          | refine CO.nil ?_
          | refine CV.seq ?_
          | refine CV.region callees ?_
          | refine CV.cond ?_
          | refine CV.block ?_
          | refine CV.skip ?_
          | refine CV.exit ?_
          | refine CV.ret ?_
          | refine CV.scope ?_
          | refine CV.draw callees rfl ?_
          | refine CH.cons rfl ?_
          | refine CH.nil ?_
          | refine CO.consG rfl ?_
          | refine CH.consG rfl ?_
          | refine CG.cons rfl ?_
          | refine CR.cons ?_
          | refine CR.nil ?_
          | refine CG.nil ?_
          | refine CG.consG rfl ?_
          | refine ⟨(rfl : plain _ = true), ?_⟩
          | refine ⟨(rfl : nilOk _ = some _), ?_⟩
          | refine ⟨_, ints_len (by assumption), ?_⟩
          | refine ⟨_, ints_addr (by assumption) (by omega) (by omega), ?_⟩
          | refine ⟨_, ints_load (by assumption) (by omega) (by omega), ?_⟩
          | refine ⟨(⟨by omega, by omega⟩ : inI64 _), ?_⟩
          | refine ⟨_, fun tm ha => step1_max rfl (ev_tmp ha rfl) (ev_tmp ha rfl), ?_⟩
          | refine ⟨_, fun tm ha => step1_min rfl (ev_tmp ha rfl) (ev_tmp ha rfl), ?_⟩
          | (refine ⟨fun _ => ?_, fun _ => ?_⟩ <;> first | (exfalso; omega) | skip)
          | fail
        · exact ⟨rfl, by rw [hbf, hd, decide_eq_true (by omega)], kh.trans kz⟩
        · exact ⟨rfl, by rw [hbf, hd, decide_eq_false (by omega)], kh.trans kz⟩
  · have : t = ks.length := by omega
    subst this
    repeat' first
      | refine CO.cons rfl ?_
      | refine CO.nil ?_
      | refine CV.seq ?_
      | refine CV.region callees ?_
      | refine CV.cond ?_
      | refine CV.block ?_
      | refine CV.skip ?_
      | refine CV.exit ?_
      | refine CV.ret ?_
      | refine CV.scope ?_
      | refine CV.draw callees rfl ?_
      | refine CH.cons rfl ?_
      | refine CH.nil ?_
      | refine CO.consG rfl ?_
      | refine CH.consG rfl ?_
      | refine CG.cons rfl ?_
      | refine CR.cons ?_
      | refine CR.nil ?_
      | refine CG.nil ?_
      | refine CG.consG rfl ?_
      | refine ⟨(rfl : plain _ = true), ?_⟩
      | refine ⟨(rfl : nilOk _ = some _), ?_⟩
      | refine ⟨_, ints_len (by assumption), ?_⟩
      | refine ⟨_, ints_addr (by assumption) (by omega) (by omega), ?_⟩
      | refine ⟨_, ints_load (by assumption) (by omega) (by omega), ?_⟩
      | refine ⟨(⟨by omega, by omega⟩ : inI64 _), ?_⟩
      | refine ⟨_, fun tm ha => step1_max rfl (ev_tmp ha rfl) (ev_tmp ha rfl), ?_⟩
      | refine ⟨_, fun tm ha => step1_min rfl (ev_tmp ha rfl) (ev_tmp ha rfl), ?_⟩
      | (refine ⟨fun _ => ?_, fun _ => ?_⟩ <;> first | (exfalso; omega) | skip)
      | fail
    exact ⟨rfl, by rw [hbf, List.drop_length]; rfl, kh.trans kx⟩
end Go.Proofs.Ytcpklnekpdhlmaa
