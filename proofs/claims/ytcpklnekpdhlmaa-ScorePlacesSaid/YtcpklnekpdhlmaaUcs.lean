
/- Places, by the program. -/
import Derived.Test.YtcpklnekpdhlmaaUbs
import Derived.Test.YtcpklnekpdhlmaaEu
set_option linter.unusedVariables false
set_option linter.unusedSimpArgs false
namespace Go.Proofs.Ytcpklnekpdhlmaa
open Go.AI
instance : Inhabited Scr := ⟨⟨0, 0, 0, 0, 0, 0, 0, 0⟩⟩
theorem un46 : Try.prog.underlying 46 = some (.slice 36) := by kernel_rfl
theorem scr_at {xs : List Scr} {j : Nat} (h : j < xs.length) : (xs.map Scr.l)[j]? = some xs[j]!.l := by
  rw [List.getElem?_map, List.getElem?_eq_getElem h, getElem!_pos xs j h]; rfl
abbrev Scrs (H : Heap) (v : Value) (xs : List Scr) : Prop := RowS 8 H v (xs.map Scr.l)
theorem scrs_len {H : Heap} {v : Value} {xs : List Scr} (h : Scrs H v xs) : alen Try.prog H 46 v = some (.int .i64 xs.length) := by
  have := RowS.alen h un46
  rwa [List.length_map] at this
theorem scrs_addr {H : Heap} {v : Value} {xs : List Scr} (h : Scrs H v xs) {j : Int} (h0 : 0 ≤ j) (h1 : j < xs.length) : aindexAddr Try.prog 46 v (.int .i64 j) = some (elemS v 8 j.toNat) :=
  RowS.addr h un46 szX h0 (by rw [List.length_map]; exact h1)
theorem scrs_load {H : Heap} {v : Value} {xs : List Scr} (h : Scrs H v xs) {j : Int} (h0 : 0 ≤ j) (h1 : j < xs.length) : aload Try.prog 36 H (elemS v 8 j.toNat) = some xs[j.toNat]!.v :=
  RowS.load h agX szX (scr_at (by omega))
theorem set_at {l : List Int} {i a : Nat} {x : Int} (ha : a < l.length) : (l.set i x)[a]! = if i = a then x else l[a]! := get_set ha
/-- The places: guest after guest. -/
def Pl (ks : List Int) (xs : List Scr) (i : Nat) : Nat := plN ks (fun j => amt xs[j]! j) xs.length i
set_option maxHeartbeats 4000000 in
set_option maxRecDepth 100000 in
theorem placed_spec {B : Nat} {H : Heap} {k v : Value} {ks : List Int} {xs : List Scr} (hB : B ≤ H.n) (hk : Ints H k ks) (hn : ks.length < 1000000) (hq : ∀ t, t < ks.length → 1 ≤ ks[t]! ∧ ks[t]! ≤ 6) (hv : Scrs H v xs) (hx : xs.length ≤ 1000) :
    CallB Try.prog B 60 [k, v] H (fun r H' => (∃ ps : List Int, ps.length = xs.length ∧ (∀ i, i < xs.length → ps[i]! = (Pl ks xs i : Int)) ∧ Own 3 H' r (ps.map VI) H.n) ∧ Keep H H') := by
  refine CV.enter callees false rfl Try.func60 rfl (by kernel_rfl) (Nat.le_of_ble_eq_true rfl) hB ?_
  repeat' first
    | refine CO.cons rfl ?_
    | refine CO.nil ?_
    | refine CV.seq ?_
    | refine CV.region callees ?_
    | refine CV.cond ?_
    | refine CV.block ?_
    | refine CV.skip ?_
    | refine CV.exit ?_
    | refine CV.ret ?_
    | refine CV.scope ?_
    | refine CV.draw callees rfl ?_
    | refine CH.cons rfl ?_
    | refine CH.nil ?_
    | refine CO.consG rfl ?_
    | refine CH.consG rfl ?_
    | refine CG.cons rfl ?_
    | refine CR.cons ?_
    | refine CR.nil ?_
    | refine CG.nil ?_
    | refine CG.consG rfl ?_
    | refine ⟨(rfl : plain _ = true), ?_⟩
    | refine ⟨(rfl : nilOk _ = some _), ?_⟩
    | refine ⟨_, ints_len (by assumption), ?_⟩
    | refine ⟨_, ints_addr (by assumption) (by omega) (by omega), ?_⟩
    | refine ⟨_, ints_load (by assumption) (by omega) (by omega), ?_⟩
    | refine ⟨(⟨by omega, by omega⟩ : inI64 _), ?_⟩
    | refine ⟨_, fun tm ha => step1_max rfl (ev_tmp ha rfl) (ev_tmp ha rfl), ?_⟩
    | refine ⟨_, fun tm ha => step1_min rfl (ev_tmp ha rfl) (ev_tmp ha rfl), ?_⟩
    | refine ⟨_, scrs_len hv, ?_⟩
    | (refine ⟨fun _ => ?_, fun _ => ?_⟩ <;> first | (exfalso; omega) | skip)
    | fail
  refine ⟨_, _, make_row un22 one3 (by omega) xs.length (by omega), ?_⟩
  have hown : Own 3 (H.new (.cells (List.replicate xs.length (VI 0)) 3 2)) (.slice (some ⟨H.n, 0, none⟩) xs.length 0) ((List.replicate xs.length (0 : Int)).map VI) H.n :=
    .inr ⟨H.n, by simp, Nat.le_refl _, Nat.lt_succ_self _, by rw [Heap.get_new_eq]; simp⟩
  have k1 : Keep H (H.new (.cells (List.replicate xs.length (VI 0)) 3 2)) := Keep.new _ _
  generalize hH2 : H.new (.cells (List.replicate xs.length (VI 0)) 3 2) = H2 at hown k1
  generalize hw : Value.slice (some ⟨H.n, 0, none⟩) xs.length 0 = w at hown
  have hv2 : Scrs H2 v xs := RowS.keep hv k1
  repeat' first
    | refine CO.cons rfl ?_
    | refine CO.nil ?_
    | refine CV.seq ?_
    | refine CV.region callees ?_
    | refine CV.cond ?_
    | refine CV.block ?_
    | refine CV.skip ?_
    | refine CV.exit ?_
    | refine CV.ret ?_
    | refine CV.scope ?_
    | refine CV.draw callees rfl ?_
    | refine CH.cons rfl ?_
    | refine CH.nil ?_
    | refine CO.consG rfl ?_
    | refine CH.consG rfl ?_
    | refine CG.cons rfl ?_
    | refine CR.cons ?_
    | refine CR.nil ?_
    | refine CG.nil ?_
    | refine CG.consG rfl ?_
    | refine ⟨(rfl : plain _ = true), ?_⟩
    | refine ⟨(rfl : nilOk _ = some _), ?_⟩
    | refine ⟨_, ints_len (by assumption), ?_⟩
    | refine ⟨_, ints_addr (by assumption) (by omega) (by omega), ?_⟩
    | refine ⟨_, ints_load (by assumption) (by omega) (by omega), ?_⟩
    | refine ⟨(⟨by omega, by omega⟩ : inI64 _), ?_⟩
    | refine ⟨_, fun tm ha => step1_max rfl (ev_tmp ha rfl) (ev_tmp ha rfl), ?_⟩
    | refine ⟨_, fun tm ha => step1_min rfl (ev_tmp ha rfl) (ev_tmp ha rfl), ?_⟩
    | refine ⟨_, scrs_len hv2, ?_⟩
    | (refine ⟨fun _ => ?_, fun _ => ?_⟩ <;> first | (exfalso; omega) | skip)
    | fail
  refine CV.loopc ?_
  refine WCv.rounds callees false (α := List Int × Nat) (fun (ys, i) => [(0, k), (1, v), (5, w), (13, v), (14, .int .i64 xs.length), (15, .int .i64 i)]) (fun (ys, i) Hz => i ≤ xs.length ∧ ys.length = xs.length ∧ Own 3 Hz w (ys.map VI) H.n ∧ Keep H Hz ∧ (∀ a, a < i → ys[a]! = (Pl ks xs a : Int))) (fun (ys, i) => xs.length - i) (List.replicate xs.length 0, 0) (by repeat' first | exact trivial | refine ⟨rfl, ?_⟩ | refine ⟨slot_int (by (try simp only [Int.toNat_natCast]); omega), ?_⟩) ?_ ?_
  · exact ⟨by omega, by simp, hown, k1, fun a ha => by omega⟩
  rintro ⟨ys, i⟩ Hx ⟨hi, ly, hwx, kx, hys⟩ hBx
  have hvx : Scrs Hx v xs := RowS.keep hv kx
  have lkx := kx.1
  by_cases hi2 : i < xs.length
  · have hxi : xs[(i : Int).toNat]! = xs[i]! := rfl
    repeat' first
      | refine CO.cons rfl ?_
      | refine CO.nil ?_
      | refine CV.seq ?_
      | refine CV.region callees ?_
      | refine CV.cond ?_
      | refine CV.block ?_
      | refine CV.skip ?_
      | refine CV.exit ?_
      | refine CV.ret ?_
      | refine CV.scope ?_
      | refine CV.draw callees rfl ?_
      | refine CH.cons rfl ?_
      | refine CH.nil ?_
      | refine CO.consG rfl ?_
      | refine CH.consG rfl ?_
      | refine CG.cons rfl ?_
      | refine CR.cons ?_
      | refine CR.nil ?_
      | refine CG.nil ?_
      | refine CG.consG rfl ?_
      | refine ⟨(rfl : plain _ = true), ?_⟩
      | refine ⟨(rfl : nilOk _ = some _), ?_⟩
      | refine ⟨_, ints_len (by assumption), ?_⟩
      | refine ⟨_, ints_addr (by assumption) (by omega) (by omega), ?_⟩
      | refine ⟨_, ints_load (by assumption) (by omega) (by omega), ?_⟩
      | refine ⟨(⟨by omega, by omega⟩ : inI64 _), ?_⟩
      | refine ⟨_, fun tm ha => step1_max rfl (ev_tmp ha rfl) (ev_tmp ha rfl), ?_⟩
      | refine ⟨_, fun tm ha => step1_min rfl (ev_tmp ha rfl) (ev_tmp ha rfl), ?_⟩
      | refine ⟨_, scrs_addr hvx (by omega) (by omega), ?_⟩
      | refine ⟨_, scrs_load hvx (by omega) (by omega), ?_⟩
      | (refine ⟨_, _, allocX, ?_⟩)
      | (refine ⟨fun _ => ?_, fun _ => ?_⟩ <;> first | (exfalso; omega) | skip)
      | fail
    rw [hxi]
    generalize hs1 : Hx.new (Xc 0 0 0 0 0 0 0 0) = Ha
    have hga := new_get hs1
    have k2 := new_keep hs1
    have n2 := new_n hs1
    obtain ⟨bi, hbi⟩ : ∃ bi, Hx.n = bi := ⟨_, rfl⟩
    rw [hbi] at hga n2 ⊢
    refine ⟨_, _, storeX hga, by omega, ?_⟩
    generalize hs2 : Ha.set bi _ = Hb
    have hgb := set_get hs2
    have nb := set_n hs2
    have kb : Keep Hx Hb := keep_put k2 (by omega) (set_old hs2) nb
    have hwb := hwx.keep kb
    have lb := kb.1
    have hwi : Ints Hb w ys := hwb.row
    repeat' first
      | refine CO.cons rfl ?_
      | refine CO.nil ?_
      | refine CV.seq ?_
      | refine CV.region callees ?_
      | refine CV.cond ?_
      | refine CV.block ?_
      | refine CV.skip ?_
      | refine CV.exit ?_
      | refine CV.ret ?_
      | refine CV.scope ?_
      | refine CV.draw callees rfl ?_
      | refine CH.cons rfl ?_
      | refine CH.nil ?_
      | refine CO.consG rfl ?_
      | refine CH.consG rfl ?_
      | refine CG.cons rfl ?_
      | refine CR.cons ?_
      | refine CR.nil ?_
      | refine CG.nil ?_
      | refine CG.consG rfl ?_
      | refine ⟨(rfl : plain _ = true), ?_⟩
      | refine ⟨(rfl : nilOk _ = some _), ?_⟩
      | refine ⟨_, ints_len (by assumption), ?_⟩
      | refine ⟨_, ints_addr (by assumption) (by omega) (by omega), ?_⟩
      | refine ⟨_, ints_load (by assumption) (by omega) (by omega), ?_⟩
      | refine ⟨(⟨by omega, by omega⟩ : inI64 _), ?_⟩
      | refine ⟨_, fun tm ha => step1_max rfl (ev_tmp ha rfl) (ev_tmp ha rfl), ?_⟩
      | refine ⟨_, fun tm ha => step1_min rfl (ev_tmp ha rfl) (ev_tmp ha rfl), ?_⟩
      | (refine ⟨fun _ => ?_, fun _ => ?_⟩ <;> first | (exfalso; omega) | skip)
      | fail
    refine put_ask (i := i) hwb (by omega) (by omega) ?_
    intro Hc hwc kbc
    have lc := kbc.le
    have hgc : Hc.get bi = some (.cells xs[i]!.l 36 1) := by
      rw [kbc.get bi (by omega) (fun h => by have := (hwx.lt h).2; omega)]; exact hgb
    have kc : Keep H Hc := kbc.keep (kx.trans kb) (fun c hc => (hwx.lt hc).1)
    have hvc : Scrs Hc v xs := RowS.keep hv kc
    have hBc : B ≤ Hc.n := by omega
    repeat' first
      | refine CO.cons rfl ?_
      | refine CO.nil ?_
      | refine CV.seq ?_
      | refine CV.region callees ?_
      | refine CV.cond ?_
      | refine CV.block ?_
      | refine CV.skip ?_
      | refine CV.exit ?_
      | refine CV.ret ?_
      | refine CV.scope ?_
      | refine CV.draw callees rfl ?_
      | refine CH.cons rfl ?_
      | refine CH.nil ?_
      | refine CO.consG rfl ?_
      | refine CH.consG rfl ?_
      | refine CG.cons rfl ?_
      | refine CR.cons ?_
      | refine CR.nil ?_
      | refine CG.nil ?_
      | refine CG.consG rfl ?_
      | refine ⟨(rfl : plain _ = true), ?_⟩
      | refine ⟨(rfl : nilOk _ = some _), ?_⟩
      | refine ⟨_, ints_len (by assumption), ?_⟩
      | refine ⟨_, ints_addr (by assumption) (by omega) (by omega), ?_⟩
      | refine ⟨_, ints_load (by assumption) (by omega) (by omega), ?_⟩
      | refine ⟨(⟨by omega, by omega⟩ : inI64 _), ?_⟩
      | refine ⟨_, fun tm ha => step1_max rfl (ev_tmp ha rfl) (ev_tmp ha rfl), ?_⟩
      | refine ⟨_, fun tm ha => step1_min rfl (ev_tmp ha rfl) (ev_tmp ha rfl), ?_⟩
      | refine ⟨_, scrs_len hvc, ?_⟩
      | (refine ⟨fun _ => ?_, fun _ => ?_⟩ <;> first | (exfalso; omega) | skip)
      | fail
    refine CV.loopc ?_
    refine WCv.rounds callees false (α := List Int × Nat) (fun (zs, j) => [(0, k), (1, v), (5, w), (6, .int .i64 i), (7, .pointer (some ⟨bi, 0, none⟩)), (13, v), (14, .int .i64 xs.length), (15, .int .i64 i), (23, v), (24, .int .i64 xs.length), (25, .int .i64 j)]) (fun (zs, j) Hz => j ≤ xs.length ∧ zs.length = xs.length ∧ Own 3 Hz w (zs.map VI) H.n ∧ Keep H Hz ∧ Hc.n ≤ Hz.n ∧ Hz.get bi = some (.cells xs[i]!.l 36 1) ∧ (∀ a, a < i → zs[a]! = (Pl ks xs a : Int)) ∧ zs[i]! = 1 + (cntN (fun j => bef ks (amt xs[j]! j) (amt xs[i]! i)) j : Int)) (fun (zs, j) => xs.length - j) (ys.set i 1, 0) (by repeat' first | exact trivial | refine ⟨rfl, ?_⟩ | refine ⟨slot_int (by (try simp only [Int.toNat_natCast]); omega), ?_⟩) ?_ ?_
    · refine ⟨by omega, by rw [List.length_set]; omega, hwc, kc, Nat.le_refl _, hgc, fun a ha => ?_, ?_⟩
      · rw [set_at (by omega), if_neg (by omega)]; exact hys a ha
      · rw [set_at (by omega), if_pos rfl]; rfl
    rintro ⟨zs, j⟩ Hy ⟨hj, lz, hwy, ky, ly2, hgy, hzs, hzi⟩ hBy
    have hvy : Scrs Hy v xs := RowS.keep hv ky
    have lky := ky.1
    by_cases hj2 : j < xs.length
    · have hxj : xs[(j : Int).toNat]! = xs[j]! := rfl
      repeat' first
        | refine CO.cons rfl ?_
        | refine CO.nil ?_
        | refine CV.seq ?_
        | refine CV.region callees ?_
        | refine CV.cond ?_
        | refine CV.block ?_
        | refine CV.skip ?_
        | refine CV.exit ?_
        | refine CV.ret ?_
        | refine CV.scope ?_
        | refine CV.draw callees rfl ?_
        | refine CH.cons rfl ?_
        | refine CH.nil ?_
        | refine CO.consG rfl ?_
        | refine CH.consG rfl ?_
        | refine CG.cons rfl ?_
        | refine CR.cons ?_
        | refine CR.nil ?_
        | refine CG.nil ?_
        | refine CG.consG rfl ?_
        | refine ⟨(rfl : plain _ = true), ?_⟩
        | refine ⟨(rfl : nilOk _ = some _), ?_⟩
        | refine ⟨_, ints_len (by assumption), ?_⟩
        | refine ⟨_, ints_addr (by assumption) (by omega) (by omega), ?_⟩
        | refine ⟨_, ints_load (by assumption) (by omega) (by omega), ?_⟩
        | refine ⟨(⟨by omega, by omega⟩ : inI64 _), ?_⟩
        | refine ⟨_, fun tm ha => step1_max rfl (ev_tmp ha rfl) (ev_tmp ha rfl), ?_⟩
        | refine ⟨_, fun tm ha => step1_min rfl (ev_tmp ha rfl) (ev_tmp ha rfl), ?_⟩
        | refine ⟨_, scrs_addr hvy (by omega) (by omega), ?_⟩
        | refine ⟨_, scrs_load hvy (by omega) (by omega), ?_⟩
        | (refine ⟨_, _, allocX, ?_⟩)
        | (refine ⟨fun _ => ?_, fun _ => ?_⟩ <;> first | (exfalso; omega) | skip)
        | fail
      rw [hxj]
      generalize hs3 : Hy.new (Xc 0 0 0 0 0 0 0 0) = Hd
      have hgd := new_get hs3
      have k3 := new_keep hs3
      have n3 := new_n hs3
      obtain ⟨bj, hbj⟩ : ∃ bj, Hy.n = bj := ⟨_, rfl⟩
      rw [hbj] at hgd n3 ⊢
      refine ⟨_, _, storeX hgd, by omega, ?_⟩
      generalize hs4 : Hd.set bj _ = He
      have hge := set_get hs4
      have ne := set_n hs4
      have ke : Keep Hy He := keep_put k3 (by omega) (set_old hs4) ne
      have le := ke.1
      have hgie : He.get bi = some (.cells xs[i]!.l 36 1) := by rw [ke.2 bi (by omega)]; exact hgy
      repeat' first
        | refine CO.cons rfl ?_
        | refine CO.nil ?_
        | refine CV.seq ?_
        | refine CV.region callees ?_
        | refine CV.cond ?_
        | refine CV.block ?_
        | refine CV.skip ?_
        | refine CV.exit ?_
        | refine CV.ret ?_
        | refine CV.scope ?_
        | refine CV.draw callees rfl ?_
        | refine CH.cons rfl ?_
        | refine CH.nil ?_
        | refine CO.consG rfl ?_
        | refine CH.consG rfl ?_
        | refine CG.cons rfl ?_
        | refine CR.cons ?_
        | refine CR.nil ?_
        | refine CG.nil ?_
        | refine CG.consG rfl ?_
        | refine ⟨(rfl : plain _ = true), ?_⟩
        | refine ⟨(rfl : nilOk _ = some _), ?_⟩
        | refine ⟨_, ints_len (by assumption), ?_⟩
        | refine ⟨_, ints_addr (by assumption) (by omega) (by omega), ?_⟩
        | refine ⟨_, ints_load (by assumption) (by omega) (by omega), ?_⟩
        | refine ⟨(⟨by omega, by omega⟩ : inI64 _), ?_⟩
        | refine ⟨_, fun tm ha => step1_max rfl (ev_tmp ha rfl) (ev_tmp ha rfl), ?_⟩
        | refine ⟨_, fun tm ha => step1_min rfl (ev_tmp ha rfl) (ev_tmp ha rfl), ?_⟩
        | (refine ⟨_, loadX hge, ?_⟩)
        | (refine ⟨_, loadX hgie, ?_⟩)
        | (refine ⟨_, buildG, ?_⟩)
        | (refine ⟨fun _ => ?_, fun _ => ?_⟩ <;> first | (exfalso; omega) | skip)
        | fail
      refine (isBefore_spec (x := xs[j]!) (y := xs[i]!) (by omega) (Row.keep hk (ky.trans ke)) hn hq (by omega) (by omega) (by omega) (by omega)).mono ?_
      rintro r Hf ⟨rfl, kf⟩
      have lf := kf.1
      have kyf := ke.trans kf
      have hwf := hwy.keep kyf
      have hwfi : Ints Hf w zs := hwf.row
      have hgf : Hf.get bi = some (.cells xs[i]!.l 36 1) := by rw [kf.2 bi (by omega)]; exact hgie
      have hzi' : zs[(i : Int).toNat]! = 1 + (cntN (fun j => bef ks (amt xs[j]! j) (amt xs[i]! i)) j : Int) := hzi
      have hcle := cntN_le (fun j => bef ks (amt xs[j]! j) (amt xs[i]! i)) j
      cases hbf : bef ks (amt xs[j]! j) (amt xs[i]! i) with
      | true =>
        have ec : cntN (fun j => bef ks (amt xs[j]! j) (amt xs[i]! i)) (j + 1) = cntN (fun j => bef ks (amt xs[j]! j) (amt xs[i]! i)) j + 1 := by rw [cntN, if_pos hbf]
        repeat' first
          | refine CO.cons rfl ?_
          | refine CO.nil ?_
          | refine CV.seq ?_
          | refine CV.region callees ?_
          | refine CV.cond ?_
          | refine CV.block ?_
          | refine CV.skip ?_
          | refine CV.exit ?_
          | refine CV.ret ?_
          | refine CV.scope ?_
          | refine CV.draw callees rfl ?_
          | refine CH.cons rfl ?_
          | refine CH.nil ?_
          | refine CO.consG rfl ?_
          | refine CH.consG rfl ?_
          | refine CG.cons rfl ?_
          | refine CR.cons ?_
          | refine CR.nil ?_
          | refine CG.nil ?_
          | refine CG.consG rfl ?_
          | refine ⟨(rfl : plain _ = true), ?_⟩
          | refine ⟨(rfl : nilOk _ = some _), ?_⟩
          | refine ⟨_, ints_len (by assumption), ?_⟩
          | refine ⟨_, ints_addr (by assumption) (by omega) (by omega), ?_⟩
          | refine ⟨_, ints_load (by assumption) (by omega) (by omega), ?_⟩
          | refine ⟨(⟨by omega, by omega⟩ : inI64 _), ?_⟩
          | refine ⟨_, fun tm ha => step1_max rfl (ev_tmp ha rfl) (ev_tmp ha rfl), ?_⟩
          | refine ⟨_, fun tm ha => step1_min rfl (ev_tmp ha rfl) (ev_tmp ha rfl), ?_⟩
          | (refine ⟨fun _ => ?_, fun _ => ?_⟩ <;> first | (exfalso; omega) | skip)
          | fail
        refine put_ask (i := i) hwf (by omega) (by omega) ?_
        intro Hg hwg kbg
        have lg := kbg.le
        repeat' first
          | refine CO.cons rfl ?_
          | refine CO.nil ?_
          | refine CV.seq ?_
          | refine CV.region callees ?_
          | refine CV.cond ?_
          | refine CV.block ?_
          | refine CV.skip ?_
          | refine CV.exit ?_
          | refine CV.ret ?_
          | refine CV.scope ?_
          | refine CV.draw callees rfl ?_
          | refine CH.cons rfl ?_
          | refine CH.nil ?_
          | refine CO.consG rfl ?_
          | refine CH.consG rfl ?_
          | refine CG.cons rfl ?_
          | refine CR.cons ?_
          | refine CR.nil ?_
          | refine CG.nil ?_
          | refine CG.consG rfl ?_
          | refine ⟨(rfl : plain _ = true), ?_⟩
          | refine ⟨(rfl : nilOk _ = some _), ?_⟩
          | refine ⟨_, ints_len (by assumption), ?_⟩
          | refine ⟨_, ints_addr (by assumption) (by omega) (by omega), ?_⟩
          | refine ⟨_, ints_load (by assumption) (by omega) (by omega), ?_⟩
          | refine ⟨(⟨by omega, by omega⟩ : inI64 _), ?_⟩
          | refine ⟨_, fun tm ha => step1_max rfl (ev_tmp ha rfl) (ev_tmp ha rfl), ?_⟩
          | refine ⟨_, fun tm ha => step1_min rfl (ev_tmp ha rfl) (ev_tmp ha rfl), ?_⟩
          | (refine ⟨fun _ => ?_, fun _ => ?_⟩ <;> first | (exfalso; omega) | skip)
          | fail
        refine ⟨(zs.set i (zs[(i : Int).toNat]! + 1), j + 1), (by repeat' first | exact trivial | refine ⟨rfl, ?_⟩ | refine ⟨slot_int (by (try simp only [Int.toNat_natCast]); omega), ?_⟩), (by (try dsimp only); omega), ?_⟩
        refine ⟨by omega, by rw [List.length_set]; omega, hwg, kbg.keep (ky.trans kyf) (fun c hc => (hwy.lt hc).1), by omega, ?_, fun a ha => ?_, ?_⟩
        · rw [kbg.get bi (by omega) (fun h => by have := (hwx.lt h).2; omega)]; exact hgf
        · rw [set_at (by omega), if_neg (by omega)]; exact hzs a ha
        · rw [set_at (by omega), if_pos rfl, ec]; omega
      | false =>
        have ec : cntN (fun j => bef ks (amt xs[j]! j) (amt xs[i]! i)) (j + 1) = cntN (fun j => bef ks (amt xs[j]! j) (amt xs[i]! i)) j := by rw [cntN, if_neg (by rw [hbf]; decide)]; rfl
        repeat' first
          | refine CO.cons rfl ?_
          | refine CO.nil ?_
          | refine CV.seq ?_
          | refine CV.region callees ?_
          | refine CV.cond ?_
          | refine CV.block ?_
          | refine CV.skip ?_
          | refine CV.exit ?_
          | refine CV.ret ?_
          | refine CV.scope ?_
          | refine CV.draw callees rfl ?_
          | refine CH.cons rfl ?_
          | refine CH.nil ?_
          | refine CO.consG rfl ?_
          | refine CH.consG rfl ?_
          | refine CG.cons rfl ?_
          | refine CR.cons ?_
          | refine CR.nil ?_
          | refine CG.nil ?_
          | refine CG.consG rfl ?_
          | refine ⟨(rfl : plain _ = true), ?_⟩
          | refine ⟨(rfl : nilOk _ = some _), ?_⟩
          | refine ⟨_, ints_len (by assumption), ?_⟩
          | refine ⟨_, ints_addr (by assumption) (by omega) (by omega), ?_⟩
          | refine ⟨_, ints_load (by assumption) (by omega) (by omega), ?_⟩
          | refine ⟨(⟨by omega, by omega⟩ : inI64 _), ?_⟩
          | refine ⟨_, fun tm ha => step1_max rfl (ev_tmp ha rfl) (ev_tmp ha rfl), ?_⟩
          | refine ⟨_, fun tm ha => step1_min rfl (ev_tmp ha rfl) (ev_tmp ha rfl), ?_⟩
          | (refine ⟨fun _ => ?_, fun _ => ?_⟩ <;> first | (exfalso; omega) | skip)
          | fail
        refine ⟨(zs, j + 1), (by repeat' first | exact trivial | refine ⟨rfl, ?_⟩ | refine ⟨slot_int (by (try simp only [Int.toNat_natCast]); omega), ?_⟩), (by (try dsimp only); omega), ?_⟩
        exact ⟨by omega, lz, hwf, ky.trans kyf, by omega, hgf, hzs, by rw [hzi, ec]⟩
    · have hjl : j = xs.length := by omega
      subst hjl
      repeat' first
        | refine CO.cons rfl ?_
        | refine CO.nil ?_
        | refine CV.seq ?_
        | refine CV.region callees ?_
        | refine CV.cond ?_
        | refine CV.block ?_
        | refine CV.skip ?_
        | refine CV.exit ?_
        | refine CV.ret ?_
        | refine CV.scope ?_
        | refine CV.draw callees rfl ?_
        | refine CH.cons rfl ?_
        | refine CH.nil ?_
        | refine CO.consG rfl ?_
        | refine CH.consG rfl ?_
        | refine CG.cons rfl ?_
        | refine CR.cons ?_
        | refine CR.nil ?_
        | refine CG.nil ?_
        | refine CG.consG rfl ?_
        | refine ⟨(rfl : plain _ = true), ?_⟩
        | refine ⟨(rfl : nilOk _ = some _), ?_⟩
        | refine ⟨_, ints_len (by assumption), ?_⟩
        | refine ⟨_, ints_addr (by assumption) (by omega) (by omega), ?_⟩
        | refine ⟨_, ints_load (by assumption) (by omega) (by omega), ?_⟩
        | refine ⟨(⟨by omega, by omega⟩ : inI64 _), ?_⟩
        | refine ⟨_, fun tm ha => step1_max rfl (ev_tmp ha rfl) (ev_tmp ha rfl), ?_⟩
        | refine ⟨_, fun tm ha => step1_min rfl (ev_tmp ha rfl) (ev_tmp ha rfl), ?_⟩
        | (refine ⟨fun _ => ?_, fun _ => ?_⟩ <;> first | (exfalso; omega) | skip)
        | fail
      refine ⟨(zs, i + 1), (by repeat' first | exact trivial | refine ⟨rfl, ?_⟩ | refine ⟨slot_int (by (try simp only [Int.toNat_natCast]); omega), ?_⟩), (by (try dsimp only); omega), ?_⟩
      refine ⟨by omega, lz, hwy, ky, fun a ha => ?_⟩
      by_cases e : a = i
      · subst e; rw [hzi, Pl, plN]; omega
      · exact hzs a (by omega)
  · have : i = xs.length := by omega
    subst this
    repeat' first
      | refine CO.cons rfl ?_
      | refine CO.nil ?_
      | refine CV.seq ?_
      | refine CV.region callees ?_
      | refine CV.cond ?_
      | refine CV.block ?_
      | refine CV.skip ?_
      | refine CV.exit ?_
      | refine CV.ret ?_
      | refine CV.scope ?_
      | refine CV.draw callees rfl ?_
      | refine CH.cons rfl ?_
      | refine CH.nil ?_
      | refine CO.consG rfl ?_
      | refine CH.consG rfl ?_
      | refine CG.cons rfl ?_
      | refine CR.cons ?_
      | refine CR.nil ?_
      | refine CG.nil ?_
      | refine CG.consG rfl ?_
      | refine ⟨(rfl : plain _ = true), ?_⟩
      | refine ⟨(rfl : nilOk _ = some _), ?_⟩
      | refine ⟨_, ints_len (by assumption), ?_⟩
      | refine ⟨_, ints_addr (by assumption) (by omega) (by omega), ?_⟩
      | refine ⟨_, ints_load (by assumption) (by omega) (by omega), ?_⟩
      | refine ⟨(⟨by omega, by omega⟩ : inI64 _), ?_⟩
      | refine ⟨_, fun tm ha => step1_max rfl (ev_tmp ha rfl) (ev_tmp ha rfl), ?_⟩
      | refine ⟨_, fun tm ha => step1_min rfl (ev_tmp ha rfl) (ev_tmp ha rfl), ?_⟩
      | (refine ⟨fun _ => ?_, fun _ => ?_⟩ <;> first | (exfalso; omega) | skip)
      | fail
    exact ⟨by simp only [List.all_cons, List.all_nil, hwx.notTuple]; rfl, ⟨ys, ly, hys, hwx⟩, kx⟩
end Go.Proofs.Ytcpklnekpdhlmaa
