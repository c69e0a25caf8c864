
/- HearthCalm. -/
import Derived.Test.YtglkphjjinmgmaaW8h
import Derived.Test.YtglkphjjinmgmaaWrh
set_option linter.unusedVariables false
set_option linter.unusedSimpArgs false
namespace Go.Proofs.Ytglkphjjinmgmaa
open Go.AI
theorem warmL_at {k : Ke} {E : List Em} {ps : List Po} {n i : Nat} (h : i < n) : (warmL k E ps n)[i]! = warmM k E ps i := by
  rw [getElem!_pos _ i (by rw [warmL_len]; exact h)]
  simp [warmL]
theorem sp_f {H : Heap} {v : Value} {l : List (Int × Int)} (h : RowS 2 H v (l.map Hl)) {f o n j : Nat} (hf : fieldOff Try.prog 27 f = some (o, n)) (hn : n ≠ 0) (hj : j < l.length) : afieldAddr Try.prog 27 (elemS v 2 j) f = some (fieldOf (elemS v 2 j) o) := h.faddr hf hn (by rw [List.length_map]; exact hj)
theorem sp_a {H : Heap} {v : Value} {l : List (Int × Int)} (h : RowS 2 H v (l.map Hl)) {j : Nat} (hj : j < l.length) : aload Try.prog 3 H (fieldOf (elemS v 2 j) 0) = some (VJ (l[j]!).1) := h.fload ag3 (j := j) (o := 0) (r := Hl l[j]!) (hl_at hj) rfl
theorem sp_b {H : Heap} {v : Value} {l : List (Int × Int)} (h : RowS 2 H v (l.map Hl)) {j : Nat} (hj : j < l.length) : aload Try.prog 3 H (fieldOf (elemS v 2 j) 1) = some (VJ (l[j]!).2) := h.fload ag3 (j := j) (o := 1) (r := Hl l[j]!) (hl_at hj) rfl
set_option maxHeartbeats 16000000 in
set_option maxRecDepth 100000 in
theorem calm_spec {v : Value} {H : Heap} {nums : List Int} (hv : Ints H v nums) (hx : nums.length ≤ 9223372036854775807) :
    CallB Try.prog H.n 12 [v] H (fun r _ => r = .bool true) := by
  have hn : H.n ≤ H.n := Nat.le_refl _
  refine CV.enter callees false rfl Try.func12 rfl (by kernel_rfl) (Nat.le_of_ble_eq_true rfl) hn ?_
  repeat' first
    | refine CO.cons rfl ?_
    | refine CO.nil ?_
    | refine CV.seq ?_
    | refine CV.region callees ?_
    | fail
  refine (boxOf_spec hn hv hx).mono ?_
  rintro r H1 ⟨⟨b, rfl, hb, hbox⟩, k1⟩
  have l1 := k1.1
  repeat' first
    | refine CO.cons rfl ?_
    | refine CO.nil ?_
    | refine CV.seq ?_
    | refine CV.region callees ?_
    | fail
  refine (fireOf_spec hb l1 hbox (by omega) (by omega)).mono ?_
  rintro r H2 ⟨⟨cv, tv, cs, ts, rfl, hc2, ht2, hf, hcn, hcs⟩, hb2, x2⟩
  have l2 := x2.1
  have hbn := hbox.1
  have hbn2 := hb2.1
  repeat' first
    | refine CO.cons rfl ?_
    | fail
  refine (kettleOf_spec hb (by omega) hb2).mono ?_
  rintro r H3 ⟨⟨k, rfl, hk, hwa⟩, hb3, x3⟩
  have l3 := x3.1
  have hc3 : OwnC H3 cv cs _ := OwnS.boxed hc2 x3 hb2
  have ht3 : OwnT H3 tv ts _ := OwnS.boxed ht2 x3 hb2
  repeat' first
    | refine CO.cons rfl ?_
    | (refine ⟨_, _, al28, ?_⟩)
    | fail
  generalize hs4 : Heap.new H3 _ = H4
  have hg4 := new_get hs4
  have k4 := new_keep hs4
  have n4 := new_n hs4
  obtain ⟨b4, hbn4⟩ : ∃ b, Heap.n H3 = b := ⟨_, rfl⟩
  rw [hbn4] at hg4 n4 ⊢
  repeat' first
    | refine CO.cons rfl ?_
    | (refine ⟨_, _, al51, ?_⟩)
    | fail
  generalize hs5 : Heap.new H4 _ = H5
  have hg5 := new_get hs5
  have k5 := new_keep hs5
  have n5 := new_n hs5
  obtain ⟨b5, hbn5⟩ : ∃ b, Heap.n H4 = b := ⟨_, rfl⟩
  rw [hbn5] at hg5 n5 ⊢
  have hg45 := (k5.2 b4 (by omega)).trans hg4
  repeat' first
    | fail
  refine ⟨_, _, st28 hc3.oneC ht3.oneC hg45, by omega, ?_⟩
  generalize hs6 : Heap.set H5 b4 _ = H6
  have hg6 : H6.get b4 = some (.cells (Fl cv tv) 25 1) := set_get hs6
  have n6 := set_n hs6
  have o6 := set_old hs6
  have hg56 := (o6 b5 (by omega)).trans hg5
  repeat' first
    | refine CO.cons rfl ?_
    | fail
  refine ⟨_, _, st51 hg56, by omega, ?_⟩
  generalize hs7 : Heap.set H6 b5 _ = H7
  have hg7 : H7.get b5 = some (.cells (Kel k) 29 1) := set_get hs7
  have n7 := set_n hs7
  have o7 := set_old hs7
  have hf7 := (o7 b4 (by omega)).trans hg6
  have k37 : Keep H3 H7 := keep_put (keep_put (k4.trans k5) (by omega) o6 n6) (by omega) o7 n7
  have l7 := k37.1
  have hb7 := hb3.keep k37
  have hc7 : OwnC H7 cv cs _ := OwnS.keep hc3 k37
  have ht7 : OwnT H7 tv ts _ := OwnS.keep ht3 k37
  repeat' first
    | refine CO.cons rfl ?_
    | refine CO.nil ?_
    | refine CV.seq ?_
    | refine CV.region callees ?_
    | (refine ⟨_, ld51 hg7, ?_⟩)
    | fail
  refine (poursOf_spec hb (by omega) hb7 hk (by omega) (by omega) (by omega) (by omega)).mono ?_
  rintro pv H8 ⟨⟨ps, hp8, hpo, hpn⟩, hb8, x8⟩
  have l8 := x8.1
  have hk8 := (x8.2 b5 (by omega) (by omega)).trans hg7
  have hf8 := (x8.2 b4 (by omega) (by omega)).trans hf7
  have hc8 : OwnC H8 cv cs _ := OwnS.boxed hc7 x8 hb7
  have ht8 : OwnT H8 tv ts _ := OwnS.boxed ht7 x8 hb7
  repeat' first
    | refine CO.cons rfl ?_
    | fail
  refine (up_spec hb (by omega) hb8 (by omega)).mono ?_
  rintro r H9 ⟨⟨mi, rfl, mi1, mi2⟩, hb9, x9⟩
  have l9 := x9.1
  obtain ⟨mN, hmN⟩ : ∃ mN : Nat, mi = (mN : Int) := ⟨mi.toNat, by omega⟩
  subst hmN
  have hk9 := (x9.2 b5 (by omega) (by omega)).trans hk8
  have hf9 := (x9.2 b4 (by omega) (by omega)).trans hf8
  have hc9 : OwnC H9 cv cs _ := OwnS.boxed hc8 x9 hb8
  have ht9 : OwnT H9 tv ts _ := OwnS.boxed ht8 x9 hb8
  have hp9 : OwnO H9 pv ps H7.n := OwnS.boxed hp8 x9 hb8
  repeat' first
    | refine CO.cons rfl ?_
    | refine CO.nil ?_
    | refine CV.seq ?_
    | refine CV.region callees ?_
    | (refine ⟨_, fS foK2 (by decide), ?_⟩)
    | (refine ⟨_, cell_load ag3 hk9 rfl, ?_⟩)
    | fail
  refine (lone_spec (by omega)).mono ?_
  rintro r Ha ⟨rfl, ka⟩
  have la := ka.1
  have hka := (ka.2 b5 (by omega)).trans hk9
  repeat' first
    | refine CO.cons rfl ?_
    | (refine ⟨_, fS foK1 (by decide), ?_⟩)
    | fail
  refine ⟨_, _, stK1 hka, by omega, ?_⟩
  generalize hsq : Heap.set Ha b5 _ = Hb
  obtain ⟨k1', hk1'⟩ : ∃ k1' : Ke, k1' = ⟨k.wa, k.ro, k.ro, k.ro, k.ga, k.lo, k.si, k.bo⟩ := ⟨_, rfl⟩
  have hkb : Hb.get b5 = some (.cells (Kel k1') 29 1) := by rw [hk1']; exact set_get hsq
  have nb := set_n hsq
  have ob := set_old hsq
  have kxb : KeepX b5 Ha Hb := ⟨by omega, fun x _ hx => ob x hx⟩
  have hfb := (ob b4 (by omega)).trans ((ka.2 b4 (by omega)).trans hf9)
  have hcb : OwnC Hb cv cs _ := OwnS.keepX (OwnS.keep hc9 ka) kxb hka
  have htb : OwnT Hb tv ts _ := OwnS.keepX (OwnS.keep ht9 ka) kxb hka
  have hpb : OwnO Hb pv ps H7.n := OwnS.keepX (OwnS.keep hp9 ka) kxb hka
  have hbb := (hb9.keep ka).put (by omega) ob nb
  have hro1 : 0 ≤ k.ro := hk.ro
  have hro2 : k.ro ≤ 1000 := hk.ro'
  have hk1o : KOk k1' := by
    subst hk1'
    exact ⟨hk.wa, hk.wa', hk.ro, Int.le_refl _, hk.ro', hk.ro, hk.ro', hk.si, hk.bo, hk.sb, hk.ga, hk.ga', hk.lo, hk.lo'⟩
  have hwa1 : k1'.wa = k.wa := by rw [hk1']
  have hro1' : k1'.ro = k.ro := by rw [hk1']
  have hw1' : k1'.wl = k.ro ∧ k1'.wh = k.ro := by rw [hk1']; exact ⟨rfl, rfl⟩
  have hcq : ∀ c, blkOf cv = some c → c < H2.n := fun c hc => (hc2.lt hc).2
  have htq : ∀ c, blkOf tv = some c → c < H2.n := fun c hc => (ht2.lt hc).2
  repeat' first
    | refine CO.cons rfl ?_
    | refine CO.nil ?_
    | refine CV.seq ?_
    | refine CV.region callees ?_
    | refine CV.block ?_
    | fail
  refine CV.loopc ?_
  refine WCv.rounds callees false (α := Nat × List Po) (fun (i, qs) => [(3, bp b), (4, .pointer (some ⟨b4, 0, none⟩)), (5, .pointer (some ⟨b5, 0, none⟩)), (6, pv), (7, VJ (mN : Int)), (8, VJ i)]) (fun (i, qs) Hz => i ≤ ps.length ∧ (qs.length = ps.length ∧ ∀ j, j < ps.length → qs[j]!.mi = ps[j]!.mi ∧ qs[j]!.la = ps[j]!.la ∧ (j < i → qs[j]!.wm = k.ro)) ∧ OwnO Hz pv qs H7.n ∧ Hz.get b5 = some (.cells (Kel k1') 29 1) ∧ Hz.get b4 = some (.cells (Fl cv tv) 25 1) ∧ OwnC Hz cv cs H1.n ∧ OwnT Hz tv ts H1.n ∧ Box b Hz ∧ H7.n ≤ Hz.n) (fun (i, qs) => ps.length - i) (0, ps) (by repeat' first | exact trivial | refine ⟨rfl, ?_⟩ | refine ⟨slot_int (by (try simp only [Int.toNat_natCast]); omega), ?_⟩) ?_ ?_
  · exact ⟨by omega, ⟨rfl, fun j hj => ⟨rfl, rfl, fun h => by omega⟩⟩, hpb, hkb, hfb, hcb, htb, hbb, by omega⟩
  clear hpb hkb hfb hcb htb hbb
  rintro ⟨i, qs⟩ Hx ⟨hi, ⟨hql, hqs⟩, hqx, hkx, hfx, hcx, htx, hbx, lx⟩ hBx
  have hqq : ∀ c, blkOf pv = some c → H7.n ≤ c := fun c hc => (hqx.lt hc).1
  by_cases hi2 : i < ps.length
  · have hiq : i < qs.length := by omega
    have hro3 : (Kel k1')[3]? = some (VJ k.ro) := by rw [hk1']; rfl
    repeat' first
      | refine CO.cons rfl ?_
      | refine CO.nil ?_
      | refine CV.seq ?_
      | refine CV.region callees ?_
      | refine CV.cond ?_
      | refine CV.block ?_
      | refine CV.skip ?_
      | (refine ⟨_, po_len hqx.row, ?_⟩)
      | (refine ⟨_, fS foK2 (by decide), ?_⟩)
      | (refine ⟨_, cell_load ag3 hkx hro3, ?_⟩)
      | (refine ⟨_, po_addr hqx.row (by omega) (by omega), ?_⟩)
      | (refine ⟨_, po_f hqx.row foO2 (by decide) hiq, ?_⟩)
      | (refine ⟨fun _ => ?_, fun _ => ?_⟩ <;> first | (exfalso; omega) | skip)
      | fail
    refine fstore_askS (r := Pol qs[i]!) (j := i) (o := 2) (w := VJ k.ro) sz3 hqx (by omega) (po_at hiq) (by decide) rfl ?_
    intro Hc hqc0 kbc
    have lc := kbc.le
    have hset : (qs.map Pol).set i ((Pol qs[i]!).set 2 (VJ k.ro)) = (qs.set i ⟨qs[i]!.mi, qs[i]!.la, k.ro⟩).map Pol := by rw [List.map_set]; rfl
    have hqc : OwnO Hc pv (qs.set i ⟨qs[i]!.mi, qs[i]!.la, k.ro⟩) H7.n := by rw [OwnO, ← hset]; exact hqc0
    have nop : ∀ c, c < H7.n → blkOf pv ≠ some c := fun c hc h => by have := hqq _ h; omega
    repeat' first
      | refine CO.cons rfl ?_
      | refine CO.nil ?_
      | refine CV.region callees ?_
      | refine ⟨(⟨by omega, by omega⟩ : inI64 _), ?_⟩
      | fail
    refine ⟨(i + 1, qs.set i ⟨qs[i]!.mi, qs[i]!.la, k.ro⟩), (by repeat' first | exact trivial | refine ⟨rfl, ?_⟩ | refine ⟨slot_int (by (try simp only [Int.toNat_natCast]); omega), ?_⟩), (by (try dsimp only); omega), ?_⟩
    refine ⟨by omega, ⟨by rw [List.length_set]; exact hql, fun j hj => ?_⟩, hqc, (kbc.get b5 (by omega) (nop b5 (by omega))).trans hkx, (kbc.get b4 (by omega) (nop b4 (by omega))).trans hfx, ownS_keepBt hcx kbc (fun c h1 h2 => by have := hqq _ h2; have := hcq _ h1; omega), ownS_keepBt htx kbc (fun c h1 h2 => by have := hqq _ h2; have := htq _ h1; omega), hbx.keepBut kbc (nop b (by omega)), by omega⟩
    show (qs.set i ⟨qs[i]!.mi, qs[i]!.la, k.ro⟩)[j]!.mi = _ ∧ (qs.set i ⟨qs[i]!.mi, qs[i]!.la, k.ro⟩)[j]!.la = _ ∧ (j < i + 1 → (qs.set i ⟨qs[i]!.mi, qs[i]!.la, k.ro⟩)[j]!.wm = k.ro)
    rw [getElem!_pos (qs.set i _) j (by rw [List.length_set]; omega), List.getElem_set]
    have h0 := hqs j hj
    split
    · rename_i hij
      subst hij
      exact ⟨h0.1, h0.2.1, fun _ => rfl⟩
    · rename_i hij
      rw [getElem!_pos qs j (by omega)] at h0
      exact ⟨h0.1, h0.2.1, fun h => h0.2.2 (by omega)⟩
  obtain rfl : i = ps.length := by omega
  have hpq : POk k1'.wa qs := by
    rw [hwa1]
    exact pok_wm hpo hql ⟨hro1, hro2⟩ fun j hj => ⟨(hqs j hj).1, (hqs j hj).2.1, (hqs j hj).2.2 hj⟩
  have hall : ∀ j, j < qs.length → qs[j]!.wm = k.ro := fun j hj => (hqs j (by omega)).2.2 (by omega)
  repeat' first
    | refine CO.cons rfl ?_
    | refine CO.nil ?_
    | refine CV.seq ?_
    | refine CV.region callees ?_
    | refine CV.cond ?_
    | refine CV.exit ?_
    | (refine ⟨_, po_len hqx.row, ?_⟩)
    | (refine ⟨_, ld51 hkx, ?_⟩)
    | (refine ⟨_, bu28e, ?_⟩)
    | (refine ⟨fun _ => ?_, fun _ => ?_⟩ <;> first | (exfalso; omega) | skip)
    | fail
  refine (run_spec (k := k1') (cs := []) (ts := []) (ps := qs) (m := mN) (by omega) hk1o nil_rowC nil_rowT hqx.row hpq hqx.same fok0 beg0 beg0 (by omega)).mono ?_
  rintro r Hd ⟨⟨q, rfl, hqd⟩, kd⟩
  have ld := kd.1
  have hkd := (kd.2 b5 (by omega)).trans hkx
  have hfd := (kd.2 b4 (by omega)).trans hfx
  have hcd : OwnC Hd cv cs H1.n := OwnS.keep hcx kd
  have htd : OwnT Hd tv ts H1.n := OwnS.keep htx kd
  have hbd := hbx.keep kd
  have hwn := warmL_len (k := k1') (E := emL [] [] []) (ps := qs) (n := mN + 1)
  have hro3 : (Kel k1')[3]? = some (VJ k.ro) := by rw [hk1']; rfl
  repeat' first
    | refine CO.cons rfl ?_
    | refine CO.nil ?_
    | refine CV.seq ?_
    | refine CV.region callees ?_
    | refine CV.cond ?_
    | refine CV.block ?_
    | refine CV.skip ?_
    | refine CO.consG rfl ?_
    | refine ⟨(⟨by omega, by omega⟩ : inI64 _), ?_⟩
    | (refine ⟨_, sp_len hqd.row, ?_⟩)
    | (refine ⟨fun _ => ?_, fun _ => ?_⟩ <;> first | (exfalso; omega) | skip)
    | fail
  refine CV.loopc ?_
  refine WCv.rounds callees false (α := Nat) (fun i => [(3, bp b), (4, .pointer (some ⟨b4, 0, none⟩)), (5, .pointer (some ⟨b5, 0, none⟩)), (7, VJ (mN : Int)), (9, q), (11, VJ i)]) (fun i Hz => i ≤ mN + 1 ∧ Keep Hd Hz) (fun i => mN + 1 - i) (0) (by repeat' first | exact trivial | refine ⟨rfl, ?_⟩ | refine ⟨slot_int (by (try simp only [Int.toNat_natCast]); omega), ?_⟩) ?_ ?_
  · exact ⟨by omega, Keep.refl _⟩
  rintro i Hy ⟨hi3, ky⟩ hBy
  have hqy := (OwnS.keep hqd ky).row
  have ly := ky.1
  have hky := (ky.2 b5 (by omega)).trans hkd
  by_cases hi2 : i < mN + 1
  · have hsw : warmM k1' (emL [] [] []) qs i = (k.ro, k.ro) := same_warm hk1o hro1' hw1' hpq hall i
    have hld : aload Try.prog 27 Hy (elemS q 2 i) = some (Hv (k.ro, k.ro)) := by rw [sp_load hqy (by omega), warmL_at hi2, hsw]
    repeat' first
      | refine CO.cons rfl ?_
      | refine CO.nil ?_
      | refine CV.seq ?_
      | refine CV.region callees ?_
      | refine CV.cond ?_
      | refine CV.block ?_
      | refine CV.skip ?_
      | refine CV.draw callees (by decide +kernel) ?_
      | refine CH.cons rfl ?_
      | (refine ⟨_, sp_len hqy, ?_⟩)
      | (refine ⟨_, sp_addr hqy (by omega) (by omega), ?_⟩)
      | (refine ⟨_, hld, ?_⟩)
      | (refine ⟨_, fS foK2 (by decide), ?_⟩)
      | (refine ⟨_, cell_load ag3 hky hro3, ?_⟩)
      | (refine ⟨fun _ => ?_, fun _ => ?_⟩ <;> first | (exfalso; omega) | skip)
      | fail
    refine (lone_spec (by omega)).mono ?_
    rintro r Hw ⟨rfl, kw⟩
    repeat' first
      | refine CO.cons rfl ?_
      | refine CO.nil ?_
      | refine CV.region callees ?_
      | refine CV.cond ?_
      | refine CV.skip ?_
      | refine CH.cons rfl ?_
      | refine CH.nil ?_
      | refine ⟨(rfl : plain _ = true), ?_⟩
      | refine ⟨(⟨by omega, by omega⟩ : inI64 _), ?_⟩
      | (refine ⟨_, fun tm ha => step1_neS rfl (ev_tmp ha rfl) (ev_tmp ha rfl), ?_⟩)
      | fail
    refine ⟨(i + 1), (by repeat' first | exact trivial | refine ⟨rfl, ?_⟩ | refine ⟨slot_int (by (try simp only [Int.toNat_natCast]); omega), ?_⟩), (by (try dsimp only); omega), ?_⟩
    exact ⟨by omega, ky⟩
  repeat' first
    | refine CO.cons rfl ?_
    | refine CO.nil ?_
    | refine CV.seq ?_
    | refine CV.region callees ?_
    | refine CV.cond ?_
    | refine CV.exit ?_
    | (refine ⟨_, sp_len hqy, ?_⟩)
    | (refine ⟨fun _ => ?_, fun _ => ?_⟩ <;> first | (exfalso; omega) | skip)
    | fail
  have hby := hbd.keep ky
  refine (any_spec hb (by omega) hby (by omega) (by omega) (by omega)).mono ?_
  rintro r He ⟨⟨wn, rfl, wn1, wn2⟩, hbe, xe⟩
  have le := xe.1
  have hke := (xe.2 b5 (by omega) (by omega)).trans hky
  repeat' first
    | refine CO.cons rfl ?_
    | fail
  refine (lone_spec (by omega)).mono ?_
  rintro r Hf ⟨rfl, kf⟩
  have lf := kf.1
  have hkf := (kf.2 b5 (by omega)).trans hke
  repeat' first
    | refine CO.cons rfl ?_
    | (refine ⟨_, fS foK4 (by decide), ?_⟩)
    | fail
  refine ⟨_, _, store_row (i := 5) sz3 hkf (Nat.le_of_ble_eq_true rfl) rfl, by omega, ?_⟩
  generalize hsg : Heap.set Hf b5 _ = Hg
  have hkg : Hg.get b5 = some (.cells (Kel ⟨k1'.wa, k1'.wl, k1'.wh, k1'.ro, k1'.ga, 0, k1'.si, k1'.bo⟩) 29 1) := set_get hsg
  have ng := set_n hsg
  have og := set_old hsg
  repeat' first
    | refine CO.cons rfl ?_
    | (refine ⟨_, fS foK1 (by decide), ?_⟩)
    | fail
  refine ⟨_, _, stK1 hkg, by omega, ?_⟩
  generalize hsh : Heap.set Hg b5 _ = Hh
  obtain ⟨k2, hk2⟩ : ∃ k2 : Ke, k2 = ⟨k1'.wa, wn, wn, k1'.ro, k1'.ga, 0, k1'.si, k1'.bo⟩ := ⟨_, rfl⟩
  have hkh : Hh.get b5 = some (.cells (Kel k2) 29 1) := by rw [hk2]; exact set_get hsh
  have nh := set_n hsh
  have oh := set_old hsh
  have hk2o : KOk k2 := by
    subst hk2
    exact ⟨hk1o.wa, hk1o.wa', wn1, Int.le_refl _, wn2, hk1o.ro, hk1o.ro', hk1o.si, hk1o.bo, hk1o.sb, hk1o.ga, hk1o.ga', Int.le_refl _, by show (0 : Int) ≤ 1000000; decide⟩
  have hlo2 : k2.lo = 0 := by rw [hk2]
  have kxg : KeepX b5 Hf Hg := ⟨by omega, fun x _ hx => og x hx⟩
  have kxh : KeepX b5 Hg Hh := ⟨by omega, fun x _ hx => oh x hx⟩
  have hch : OwnC Hh cv cs H1.n := OwnS.keepX (OwnS.keepX (OwnS.keep (OwnS.boxed (OwnS.keep hcd ky) xe hby) kf) kxg hkf) kxh hkg
  have hth : OwnT Hh tv ts H1.n := OwnS.keepX (OwnS.keepX (OwnS.keep (OwnS.boxed (OwnS.keep htd ky) xe hby) kf) kxg hkf) kxh hkg
  have hfh := (oh b4 (by omega)).trans ((og b4 (by omega)).trans ((kf.2 b4 (by omega)).trans ((xe.2 b4 (by omega) (by omega)).trans ((ky.2 b4 (by omega)).trans hfd))))
  obtain ⟨B0, hB0⟩ := isBeg_ex (e := 0) hf
  obtain ⟨B1, hB1⟩ := isBeg_ex (e := 1) hf
  have hpn : POk k2.wa [] := (PoN.nil ⟨hk2o.wa, hk2o.wa'⟩).toPOk
  repeat' first
    | refine CO.cons rfl ?_
    | refine CO.nil ?_
    | refine CV.seq ?_
    | refine CV.region callees ?_
    | (refine ⟨_, ld51 hkh, ?_⟩)
    | (refine ⟨_, ld28 hfh, ?_⟩)
    | fail
  refine (run_spec (k := k2) (ps := []) (m := mN) (by omega) hk2o hch.row hth.row nil_row hpn rfl hf hB0 hB1 (by omega)).mono ?_
  rintro r Hi ⟨⟨w, rfl, hwi⟩, ki⟩
  have li := ki.1
  have hwn2 := warmL_len (k := k2) (E := emL cs B0 B1) (ps := []) (n := mN + 1)
  repeat' first
    | refine CO.cons rfl ?_
    | refine CO.nil ?_
    | refine CV.seq ?_
    | refine CV.region callees ?_
    | refine CV.cond ?_
    | refine CV.block ?_
    | refine CV.skip ?_
    | refine CO.consG rfl ?_
    | refine ⟨(⟨by omega, by omega⟩ : inI64 _), ?_⟩
    | (refine ⟨_, sp_len hwi.row, ?_⟩)
    | (refine ⟨fun _ => ?_, fun _ => ?_⟩ <;> first | (exfalso; omega) | skip)
    | fail
  refine CV.loopc ?_
  refine WCv.rounds callees false (α := Nat) (fun i => [(12, w), (14, VJ ((i : Int) + 1))]) (fun i Hz => i ≤ mN ∧ Hz = Hi) (fun i => mN - i) (0) (by repeat' first | exact trivial | refine ⟨rfl, ?_⟩ | refine ⟨slot_int (by (try simp only [Int.toNat_natCast]); omega), ?_⟩) ?_ ?_
  · exact ⟨by omega, rfl⟩
  rintro i Hj ⟨hi3, rfl⟩ hBj
  have hwr := hwi.row
  by_cases hi2 : i < mN
  · have hup := up_warm (E := emL cs B0 B1) hk2o hlo2 (by rw [emL_len]; have := hf.n; omega) (emL_ok hf hB0 hB1) i
    have ha1 := warmL_at (k := k2) (E := emL cs B0 B1) (ps := []) (n := mN + 1) (i := i) (by omega)
    have ha2 := warmL_at (k := k2) (E := emL cs B0 B1) (ps := []) (n := mN + 1) (i := i + 1) (by omega)
    have f1 := sp_f hwr foS0 (by decide) (show i < (warmL k2 (emL cs B0 B1) [] (mN + 1)).length by omega)
    have f2 := sp_f hwr foS0 (by decide) (show i + 1 < (warmL k2 (emL cs B0 B1) [] (mN + 1)).length by omega)
    have f3 := sp_f hwr foS1 (by decide) (show i < (warmL k2 (emL cs B0 B1) [] (mN + 1)).length by omega)
    have f4 := sp_f hwr foS1 (by decide) (show i + 1 < (warmL k2 (emL cs B0 B1) [] (mN + 1)).length by omega)
    have a1 := (sp_a hwr (show i < (warmL k2 (emL cs B0 B1) [] (mN + 1)).length by omega))
    have a2 := (sp_a hwr (show i + 1 < (warmL k2 (emL cs B0 B1) [] (mN + 1)).length by omega))
    have a3 := (sp_b hwr (show i < (warmL k2 (emL cs B0 B1) [] (mN + 1)).length by omega))
    have a4 := (sp_b hwr (show i + 1 < (warmL k2 (emL cs B0 B1) [] (mN + 1)).length by omega))
    rw [ha1] at a1 a3
    rw [ha2] at a2 a4
    have d1 : ∀ x : Int, 0 ≤ x → x < (mN : Int) + 1 → aindexAddr Try.prog 48 w (.int .i64 x) = some (elemS w 2 x.toNat) := fun x h0 h1 => sp_addr hwr h0 (by omega)
    have t1 : ((i : Int) + 1).toNat = i + 1 := by omega
    have t2 : ((i : Int) + 1 - 1).toNat = i := by omega
    have d2 := d1 ((i : Int) + 1) (by omega) (by omega)
    have d3 := d1 ((i : Int) + 1 - 1) (by omega) (by omega)
    rw [t1] at d2
    rw [t2] at d3
    repeat' first
      | refine CO.cons rfl ?_
      | refine CO.nil ?_
      | refine CV.seq ?_
      | refine CV.region callees ?_
      | refine CV.cond ?_
      | refine CV.block ?_
      | refine CV.skip ?_
      | refine CV.draw callees (by decide +kernel) ?_
      | refine CH.cons rfl ?_
      | refine CH.nil ?_
      | refine CH.consG rfl ?_
      | refine ⟨(⟨by omega, by omega⟩ : inI64 _), ?_⟩
      | (refine ⟨_, sp_len hwr, ?_⟩)
      | (refine ⟨_, d2, ?_⟩)
      | (refine ⟨_, d3, ?_⟩)
      | (refine ⟨_, f1, ?_⟩)
      | (refine ⟨_, f2, ?_⟩)
      | (refine ⟨_, f3, ?_⟩)
      | (refine ⟨_, f4, ?_⟩)
      | (refine ⟨_, a1, ?_⟩)
      | (refine ⟨_, a2, ?_⟩)
      | (refine ⟨_, a3, ?_⟩)
      | (refine ⟨_, a4, ?_⟩)
      | (refine ⟨fun _ => ?_, fun _ => ?_⟩ <;> first | (exfalso; omega) | skip)
      | fail
    refine ⟨(i + 1), (by repeat' first | exact trivial | refine ⟨rfl, ?_⟩ | refine ⟨slot_int (by (try simp only [Int.toNat_natCast]); omega), ?_⟩), (by (try dsimp only); omega), ?_⟩
    exact ⟨by omega, rfl⟩
  obtain rfl : i = mN := by omega
  repeat' first
    | refine CO.cons rfl ?_
    | refine CO.nil ?_
    | refine CV.seq ?_
    | refine CV.region callees ?_
    | refine CV.cond ?_
    | refine CV.exit ?_
    | (refine ⟨_, sp_len hwr, ?_⟩)
    | (refine ⟨fun _ => ?_, fun _ => ?_⟩ <;> first | (exfalso; omega) | skip)
    | fail
  refine (awake_spec (by omega)).mono ?_
  rintro r Hw ⟨rfl, kw⟩
  repeat' first
    | refine CO.cons rfl ?_
    | refine CO.nil ?_
    | refine CV.ret ?_
    | fail
  exact ⟨rfl, rfl⟩
end Go.Proofs.Ytglkphjjinmgmaa
