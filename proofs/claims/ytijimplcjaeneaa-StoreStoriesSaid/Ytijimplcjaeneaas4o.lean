
/- StoreStories. -/
import Derived.Test.Ytijimplcjaeneaacbo
import Derived.Test.Ytijimplcjaeneaas3o
set_option linter.unusedVariables false
set_option linter.unusedSimpArgs false
namespace Go.Proofs.Ytijimplcjaeneaa
open Go.AI
theorem zeroTo : zeroCellsW Try.prog tT = some [VI 0, VI 0, nilS, nilS] := by kernel_rfl
theorem alTo {H : Heap} : sAlloc Try.prog H tT = some (.pointer (some ⟨H.n, 0, none⟩), H.new (.cells (Tol 0 0 nilS nilS) tT 1), H.n) := alloc_ofW zeroTo
theorem szTo : sizeB Try.prog tT = some 4 := by kernel_rfl
theorem buTo1 {a b : Int} : abuild Try.prog tT [(0, Spv a b)] = some (.agg #[VI a, VI b, nilS, nilS]) := by kernel_rfl
theorem buTo0 {a b : Int} {x y : Option Addr} {n m c d : Nat} : abuild Try.prog tT [(0, Spv a b), (1, .slice x n c), (2, .slice y m d)] = some (.agg #[VI a, VI b, .slice x n c, .slice y m d]) := by kernel_rfl
theorem stToW {H : Heap} {b : Nat} {p q x y : Int} {s t lv hv : Value} (hl : oneC lv = true) (hh : oneC hv = true) (hg : H.get b = some (.cells (Tol p q s t) tT 1)) : astore Try.prog tT H (.agg #[VI x, VI y, lv, hv]) (.pointer (some ⟨b, 0, none⟩)) = some (H.set b (.cells (Tol x y lv hv) tT 1), b) := store_allW (vs := Tol x y lv hv) hg rfl szTo (by
  have : [VI x, VI y, lv, hv].all oneC = (oneC lv && (oneC hv && true)) := rfl
  rw [this, hl, hh]; rfl)
theorem ldTo0 {H : Heap} {b : Nat} {x y : Int} {lv hv : Value} (hg : H.get b = some (.cells (Tol x y lv hv) tT 1)) : aload Try.prog sT H (.pointer (some ⟨b, 0 + 0, none⟩)) = some (Spv x y) := agg_load agSp szSp hg (by show 0 + 0 + 2 ≤ 4; omega)
theorem rowS_slc {s : Nat} {H : Heap} {v : Value} {rs : List (List Value)} (h : RowS s H v rs) : ∃ x n c, v = .slice x n c := by
  rcases h.2 with ⟨rfl, _⟩ | ⟨rfl, _⟩ | ⟨b, i, c, cs, e, k, rfl, _⟩
  · exact ⟨_, _, _, rfl⟩
  · exact ⟨_, _, _, rfl⟩
  · exact ⟨_, _, _, rfl⟩
theorem Fr.ofX {b : Nat} {X Y : Heap} (k : KeepX b X Y) : Fr b 0 0 (b + 1) X Y := ⟨k.1, fun c hc hp => k.2 c hc (by omega)⟩
theorem oneBs : oneBB Try.prog bbT = some (.slice none 0 0, 24) := by kernel_rfl
/-- A table of marks that grows. -/
structure HTabP (X : Heap) (hv : Value) (rv : List Value) (k A0 : Nat) : Prop where
  row : Own bbT X hv rv A0
  n : rv.length = k
  own : ∀ d, d < k → Own bT X rv[d]! (TV []) A0
  ap : ∀ d e, d < k → e < k → d ≠ e → ∀ c, blkOf rv[d]! = some c → blkOf rv[e]! ≠ some c
theorem at_lt {l : List Value} {x : Value} {d : Nat} (h : d < l.length) : (l ++ [x])[d]! = l[d]! := by
  rw [getElem!_pos _ d (by rw [List.length_append]; omega), List.getElem_append_left h, getElem!_pos l d h]
theorem at_eq {l : List Value} {x : Value} {d : Nat} (h : d = l.length) : (l ++ [x])[d]! = x := by
  subst h
  rw [getElem!_pos _ _ (by simp), List.getElem_append_right (Nat.le_refl _)]
  simp
theorem HTabP.push {K : Value → Heap → Prop} {B A0 k : Nat} {X : Heap} {hv r : Value} {rv : List Value} (h : HTabP X hv rv k A0) (hr : Own bT X r (TV []) A0) (hb : ∀ c, blkOf r = some c → ∀ d, d < k → blkOf rv[d]! ≠ some c) (hA : A0 ≤ X.n) (hB : B ≤ A0) (hk30 : k < 30)
    (hk : ∀ q H', HTabP H' q (rv ++ [r]) (k + 1) A0 → KeepBut hv X H' → (∀ c, blkOf q = some c → X.n ≤ c) → K q H') :
    ∃ v H' b, aappend Try.prog (X.new (.cells [r] bbT 2)) #[85, 85] hv (.slice (some ⟨X.n, 0, none⟩) 1 0) = some (v, H', b) ∧ B ≤ b ∧ K v H' := by
  have hn := h.n
  refine append_askW unBB oneBs (by omega) h.row hA hB (by omega) ?_
  intro q H' ho kb hf
  refine hk q H' ⟨ho, by simp [h.n], fun d hd => ?_, fun d e hd he hde c hc => ?_⟩ kb hf
  · by_cases hd2 : d < k
    · rw [at_lt (by omega)]
      exact own_keepF (h.own d hd2) kb.le fun c hc => kb.get c ((h.own d hd2).lt hc).2 (own_ne (by decide) (h.own d hd2) h.row c hc)
    · rw [at_eq (by omega)]
      exact own_keepF hr kb.le fun c hc => kb.get c (hr.lt hc).2 (own_ne (by decide) hr h.row c hc)
  · by_cases hd2 : d < k
    · rw [at_lt (by omega)] at hc
      by_cases he2 : e < k
      · rw [at_lt (by omega)]; exact h.ap d e hd2 he2 hde c hc
      · rw [at_eq (by omega)]
        intro h'
        exact hb c h' d hd2 hc
    · rw [at_eq (by omega)] at hc
      rw [at_lt (by omega)]
      exact hb c hc e (by omega)
theorem HTabP.keep {X Y : Heap} {hv : Value} {rv : List Value} {k A0 : Nat} (h : HTabP X hv rv k A0) (kk : Keep X Y) : HTabP Y hv rv k A0 := ⟨h.row.keep kk, h.n, fun d hd => (h.own d hd).keep kk, h.ap⟩
theorem HTabP.same {X Y : Heap} {hv : Value} {rv : List Value} {k A0 : Nat} (h : HTabP X hv rv k A0) (hn : X.n ≤ Y.n) (kk : ∀ c, A0 ≤ c → c < X.n → Y.get c = X.get c) : HTabP Y hv rv k A0 :=
  ⟨own_keepF h.row hn fun c hc => kk c (h.row.lt hc).1 (h.row.lt hc).2, h.n, fun d hd => own_keepF (h.own d hd) hn fun c hc => kk c ((h.own d hd).lt hc).1 ((h.own d hd).lt hc).2, h.ap⟩
set_option maxHeartbeats 64000000 in
set_option maxRecDepth 100000 in
theorem stories_walk {v : Value} {H : Heap} {nums : List Int} (hv : Ints H v nums) (hx : nums.length ≤ 9223372036854775807) :
    CallB Try.prog H.n 8 [v] H (fun r _ => r = .bool true) := by
  have hn : H.n ≤ H.n := Nat.le_refl _
  refine CV.enter callees false rfl Try.func8 rfl (by kernel_rfl) (Nat.le_of_ble_eq_true rfl) hn ?_
  repeat' first
    | refine CO.cons rfl ?_
    | refine CO.nil ?_
    | refine CV.seq ?_
    | refine CV.region callees ?_
    | fail
  refine (boxOf_spec hn hv hx).mono ?_
  rintro r H1 ⟨⟨b, rfl, hb, hbox⟩, k1⟩
  have l1 := k1.1
  have hbn := hbox.1
  repeat' first
    | refine CO.cons rfl ?_
    | refine CO.nil ?_
    | refine CV.seq ?_
    | refine CV.region callees ?_
    | fail
  refine (chainOf_spec (most := 4) (st := 4) (wd := 2) hb l1 hbox (by omega) (by omega) (by omega) (by omega)).mono ?_
  rintro r H2 ⟨⟨mk, lo, hh, sv, ls, rfl, hs, hcm⟩, hb2, x2⟩
  have l2 := x2.1
  have hc := hcm.ok (by omega)
  have hk := chOk_of hc
  have hls7 := hk.ok.n
  have hls4 := hcm.n
  repeat' first
    | refine CO.cons rfl ?_
    | (refine ⟨_, _, alCh, ?_⟩)
    | fail
  generalize hsc : Heap.new H2 _ = Hc
  have hgc := new_get hsc
  have kc := new_keep hsc
  have nc := new_n hsc
  obtain ⟨bc, hbnc⟩ : ∃ b, Heap.n H2 = b := ⟨_, rfl⟩
  rw [hbnc] at hgc nc ⊢
  repeat' first
    | fail
  refine ⟨_, _, stCh hgc (OwnS.oneC hs), by omega, ?_⟩
  generalize hs4 : Heap.set Hc bc _ = H4
  have hg4 : H4.get bc = some (.cells (Chl mk lo hh sv) 26 1) := set_get hs4
  have n4 := set_n hs4
  have o4 := set_old hs4
  have k24 : Keep H2 H4 := keep_put kc (by omega) o4 n4
  have l4 := k24.1
  have hs4 := (hs.keep k24).row
  have hsvb : ∀ c, blkOf sv = some c → c < H2.n := fun c hc => (OwnS.lt hs hc).2
  repeat' first
    | refine CO.cons rfl ?_
    | refine CO.nil ?_
    | refine CV.seq ?_
    | refine CV.region callees ?_
    | fail
  refine (spanF_spec (by omega)).mono ?_
  rintro r H5 ⟨rfl, k5⟩
  have l5 := k5.1
  repeat' first
    | refine CO.cons rfl ?_
    | (refine ⟨_, buTo1, ?_⟩)
    | (refine ⟨_, _, alTo, ?_⟩)
    | fail
  generalize hsa : Heap.new H5 _ = Ha
  have hga := new_get hsa
  have ka := new_keep hsa
  have na := new_n hsa
  obtain ⟨ba, hbna⟩ : ∃ b, Heap.n H5 = b := ⟨_, rfl⟩
  rw [hbna] at hga na ⊢
  repeat' first
    | fail
  refine ⟨_, _, stToW rfl rfl hga, by omega, ?_⟩
  generalize hsA : Heap.set Ha ba _ = HA
  have hgA : HA.get ba = some (.cells (Tol 100000 0 nilS nilS) tT 1) := set_get hsA
  have nA := set_n hsA
  have oA := set_old hsA
  have k4A : Keep H4 HA := keep_put (k5.trans ka) (by omega) oA nA
  have lA := k4A.1
  have hgcA := (k4A.2 bc (by omega)).trans hg4
  have hsA := hs4.keep k4A
  have hba : bc < ba ∧ ba < HA.n ∧ ∀ c, blkOf sv = some c → c < ba := ⟨by omega, by omega, fun c hc => by have := hsvb c hc; omega⟩
  clear hs4 hga k24 k4A hs
  repeat' first
    | refine CO.cons rfl ?_
    | refine CO.nil ?_
    | refine CV.seq ?_
    | refine CV.region callees ?_
    | refine CV.block ?_
    | fail
  refine CV.loopc ?_
  refine WCv.rounds callees false (α := Nat × Value) (fun (i, q) => [(4, .pointer (some ⟨bc, 0, none⟩)), (5, .pointer (some ⟨ba, 0, none⟩)), (6, VI i)]) (fun (i, q) Hz => i ≤ ls.length ∧ Hz.get ba = some (.cells (Tol 100000 0 q nilS) tT 1) ∧ OwnSp Hz q (List.replicate i (100000, 0)) HA.n ∧ KeepX ba HA Hz) (fun (i, q) => ls.length - i) (0, nilS) (by repeat' first | exact trivial | refine ⟨rfl, ?_⟩ | refine ⟨slot_int (by (try simp only [Int.toNat_natCast]); omega), ?_⟩) ?_ ?_
  · exact ⟨by omega, hgA, ⟨spl_two, .inl ⟨rfl, rfl⟩⟩, KeepX.refl _ _⟩
  rintro ⟨i, q⟩ Hx ⟨hi, hgx, hq, kx⟩ hBx
  have lx := kx.1
  have hcx := (kx.2 bc (by omega) (by omega)).trans hgcA
  have hrx := (Fr.ofX kx).rowS hsA fun c hc => .inl (hba.2.2 c hc)
  by_cases hi2 : i < ls.length
  · repeat' first
      | refine CO.cons rfl ?_
      | refine CO.nil ?_
      | refine CV.seq ?_
      | refine CV.region callees ?_
      | refine CV.cond ?_
      | refine CV.block ?_
      | refine CV.skip ?_
      | refine CR.cons (es := []) ?_
      | (refine ⟨_, fS foC2 (by decide), ?_⟩)
      | (refine ⟨_, cell_load agLs hcx rfl, ?_⟩)
      | (refine ⟨_, ls_len hrx, ?_⟩)
      | refine CV.wideR callees (by decide +kernel) [(0, []), (1, []), (2, [1]), (3, [1]), (4, []), (5, []), (6, [])] (by kernel_rfl) ?_
      | (refine ⟨_, fS foT1 (by decide), ?_⟩)
      | (refine ⟨_, cell_load agSs hgx rfl, ?_⟩)
      | (refine ⟨fun _ => ?_, fun _ => ?_⟩ <;> first | (exfalso; omega) | skip)
      | fail
    refine CR.call ?_
    refine (spanF_spec (Nat.le_refl _)).mono ?_
    rintro r H6 ⟨rfl, k6⟩
    have l6 := k6.1
    have hq6 := OwnS.keep hq k6
    have hg6 := (k6.2 ba (by omega)).trans hgx
    repeat' first
      | refine CR.cons ?_
      | (refine ⟨_, _, buSpR, ?_⟩)
      | fail
    refine spPush (d := (100000, 0)) hq6 (by omega) (by omega) (by rw [List.length_replicate]; omega) ?_
    intro q7 H7 hq7 kb7 hf7
    have l7 := kb7.le
    have hqa : ∀ c, blkOf q = some c → HA.n ≤ c := fun c hc => (OwnS.lt hq hc).1
    have hg7 := (kb7.get ba (by omega) fun h => by have := hqa ba h; omega).trans hg6
    repeat' first
      | refine CR.cons ?_
      | (refine ⟨_, fS foT1 (by decide), ?_⟩)
      | fail
    refine ⟨_, _, store_row (i := 0 + 2) szSs hg7 (by show 0 + 2 < 4; decide) (OwnS.oneC hq7), by omega, ?_⟩
    generalize hs8 : Heap.set H7 ba _ = H8
    have hg8 : H8.get ba = some (.cells (Tol 100000 0 q7 nilS) tT 1) := set_get hs8
    have n8 := set_n hs8
    have o8 := set_old hs8
    repeat' first
      | refine CO.cons rfl ?_
      | refine CO.nil ?_
      | refine CV.region callees ?_
      | refine CR.nil ?_
      | refine ⟨(⟨by omega, by omega⟩ : inI64 _), ?_⟩
      | fail
    refine ⟨(i + 1, q7), (by repeat' first | exact trivial | refine ⟨rfl, ?_⟩ | refine ⟨slot_int (by (try simp only [Int.toNat_natCast]); omega), ?_⟩), (by (try dsimp only); omega), ?_⟩
    refine ⟨by omega, hg8, ?_, ⟨by omega, fun c hc hcb => (o8 c hcb).trans ((kb7.get c (by omega) fun h => by have := hqa c h; omega).trans ((k6.2 c (by omega)).trans (kx.2 c hc hcb)))⟩⟩
    rw [List.replicate_succ']
    exact own_keepFS hq7 (by omega) fun c hc => o8 c (by have := (OwnS.lt hq7 hc).1; omega)
  obtain rfl : i = ls.length := by omega
  obtain ⟨A0, hA0⟩ : ∃ n, Hx.n = n := ⟨_, rfl⟩
  have hqA0 : ∀ c, blkOf q = some c → HA.n ≤ c ∧ c < A0 := fun c hc => by have := OwnS.lt hq hc; omega
  repeat' first
    | refine CO.cons rfl ?_
    | refine CO.nil ?_
    | refine CV.seq ?_
    | refine CV.region callees ?_
    | refine CV.cond ?_
    | refine CV.block ?_
    | refine CV.exit ?_
    | (refine ⟨_, fS foC2 (by decide), ?_⟩)
    | (refine ⟨_, cell_load agLs hcx rfl, ?_⟩)
    | (refine ⟨_, ls_len hrx, ?_⟩)
    | (refine ⟨fun _ => ?_, fun _ => ?_⟩ <;> first | (exfalso; omega) | skip)
    | fail
  refine CV.loopc ?_
  refine WCv.rounds callees false (α := Nat × Value × List Value) (fun (k, h, rv) => [(4, .pointer (some ⟨bc, 0, none⟩)), (5, .pointer (some ⟨ba, 0, none⟩)), (7, VI k)]) (fun (k, h, rv) Hz => k ≤ 30 ∧ Hz.get ba = some (.cells (Tol 100000 0 q h) tT 1) ∧ HTabP Hz h rv k A0 ∧ KeepX ba Hx Hz) (fun (k, h, rv) => 30 - k) (0, nilS, []) (by repeat' first | exact trivial | refine ⟨rfl, ?_⟩ | refine ⟨slot_int (by (try simp only [Int.toNat_natCast]); omega), ?_⟩) ?_ ?_
  · exact ⟨by omega, hgx, ⟨.inl ⟨rfl, rfl⟩, rfl, fun d hd => absurd hd (by omega), fun d e hd => absurd hd (by omega)⟩, KeepX.refl _ _⟩
  rintro ⟨k, h, rv⟩ Hy ⟨hk30, hgy, hty, ky⟩ hBy
  have ly := ky.1
  by_cases hk2 : k < 30
  · repeat' first
      | refine CO.cons rfl ?_
      | refine CO.nil ?_
      | refine CV.seq ?_
      | refine CV.region callees ?_
      | refine CV.cond ?_
      | refine CV.block ?_
      | refine CV.skip ?_
      | refine CG.cons rfl ?_
      | refine CV.ap callees rfl rfl [0, 1, 2, 3] (by kernel_rfl) ?_
      | (refine ⟨_, fS foT2 (by decide), ?_⟩)
      | (refine ⟨_, cell_load agBB hgy rfl, ?_⟩)
      | (refine ⟨_, _, mk21, ?_⟩)
      | (refine ⟨fun _ => ?_, fun _ => ?_⟩ <;> first | (exfalso; omega) | skip)
      | fail
    generalize hsr : Heap.new Hy _ = Hr
    have hgr := new_get hsr
    have kr := new_keep hsr
    have nr := new_n hsr
    obtain ⟨br, hbnr⟩ : ∃ b, Heap.n Hy = b := ⟨_, rfl⟩
    rw [hbnr] at hgr nr ⊢
    have hro : Own bT Hr (.slice (some ⟨br, 0, none⟩) 21 0) (TV []) A0 := .inr ⟨br, by rw [TV_len], by omega, by omega, by rw [hgr]; rfl⟩
    have htr := hty.keep kr
    repeat' first
      | refine CO.cons rfl ?_
      | refine CG.nil ?_
      | (refine ⟨_, _, build_one unBB oneBs rfl, ?_⟩)
      | fail
    refine HTabP.push htr hro (fun c hc d hd h' => by cases hc; have := ((hty.own d hd).lt h').2; omega) (by omega) (by omega) hk2 ?_
    intro q7 H7 ht7 kb7 hf7
    have l7 := kb7.le
    have hha : ∀ c, blkOf h = some c → A0 ≤ c := fun c hc => (hty.row.lt hc).1
    have hg7 := (kb7.get ba (by omega) fun h => by have := hha ba h; omega).trans ((kr.2 ba (by omega)).trans hgy)
    repeat' first
      | refine CO.cons rfl ?_
      | (refine ⟨_, fS foT2 (by decide), ?_⟩)
      | fail
    refine ⟨_, _, store_row (i := 0 + 3) szB1 hg7 (by show 0 + 3 < 4; decide) (Row.oneC ht7.row.row).1, by omega, ?_⟩
    generalize hs8 : Heap.set H7 ba _ = H8
    have hg8 : H8.get ba = some (.cells (Tol 100000 0 q q7) tT 1) := set_get hs8
    have n8 := set_n hs8
    have o8 := set_old hs8
    repeat' first
      | refine CO.cons rfl ?_
      | refine CO.nil ?_
      | refine CV.region callees ?_
      | refine ⟨(⟨by omega, by omega⟩ : inI64 _), ?_⟩
      | fail
    refine ⟨(k + 1, q7, rv ++ [.slice (some ⟨br, 0, none⟩) 21 0]), (by repeat' first | exact trivial | refine ⟨rfl, ?_⟩ | refine ⟨slot_int (by (try simp only [Int.toNat_natCast]); omega), ?_⟩), (by (try dsimp only); omega), ?_⟩
    exact ⟨by omega, hg8, ht7.same (by omega) fun c hc _ => o8 c (by omega), ⟨by omega, fun c hc hcb => (o8 c hcb).trans ((kb7.get c (by omega) fun h => by have := hha c h; omega).trans ((kr.2 c (by omega)).trans (ky.2 c hc hcb)))⟩⟩
  obtain rfl : k = 30 := by omega
  obtain ⟨A1, hA1⟩ : ∃ n, Hy.n = n := ⟨_, rfl⟩
  have hcy := (ky.2 bc (by omega) (by omega)).trans hcx
  have hry := (Fr.ofX ky).rowS hrx fun c hc => .inl (hba.2.2 c hc)
  have hqy : OwnSp Hy q (List.replicate ls.length (100000, 0)) HA.n := own_keepFS hq ly fun c hc => ky.2 c (by have := hqA0 c hc; omega) (by have := hqA0 c hc; omega)
  repeat' first
    | refine CO.cons rfl ?_
    | refine CO.nil ?_
    | refine CV.seq ?_
    | refine CV.region callees ?_
    | refine CV.cond ?_
    | refine CV.exit ?_
    | (refine ⟨_, fS foC2 (by decide), ?_⟩)
    | (refine ⟨_, cell_load agLs hcy rfl, ?_⟩)
    | (refine ⟨_, ls_len hry, ?_⟩)
    | (refine ⟨fun _ => ?_, fun _ => ?_⟩ <;> first | (exfalso; omega) | skip)
    | fail
  refine (ordersLaw_spec (n := ls.length) (by omega) hls4).mono ?_
  rintro lq HL ⟨⟨lws, hol⟩, kL⟩
  have lL := kL.1
  rw [hA1] at hol
  have hdue := due_orders (mk := mk) (lo := lo) (hi := hh) (ls := ls) hk.l0 hk.l1
  have hLm : ∀ w ∈ genI ls.length ls.length [], w.length = ls.length ∧ ∀ k ∈ w, 0 ≤ k ∧ k < ls.length := fun w hw => by
    obtain ⟨t, rfl, h1, h2⟩ := genI_mem hw
    exact ⟨by simpa using h1, by simpa using h2⟩
  have hLn : (genI ls.length ls.length []).length ≤ 256 := by
    have := genI_len (n := ls.length) (r := ls.length)
    have h4 : ls.length ^ ls.length ≤ 256 := by
      rcases (by omega : ls.length = 0 ∨ ls.length = 1 ∨ ls.length = 2 ∨ ls.length = 3 ∨ ls.length = 4) with h | h | h | h | h <;> rw [h] <;> decide
    omega
  generalize genI ls.length ls.length [] = L at hol hdue hLm hLn
  have hhv : HTab HL h rv (fun _ => []) A0 A1 := ⟨hty.row.keep kL, fun c hc => by have := (hty.row.lt hc).2; omega, hty.n, fun d hd => (hty.own d hd).keep kL, fun d hd c hc => by have := ((hty.own d hd).lt hc).2; omega, hty.ap⟩
  have hgL := (kL.2 ba (by omega)).trans hgy
  have hcL := (kL.2 bc (by omega)).trans hcy
  have hrL := hry.keep kL
  have hqL := OwnS.keep hqy kL
  have hto : ∀ z, z < ls.length → 0 ≤ ls[z]!.t ∧ ls[z]!.t ≤ 19 := fun z hz => (linkE_bd (linksE_all hk.e ls[z]! (by rw [getElem!_pos ls z hz]; exact List.getElem_mem _))).2.1
  have hkl0 := hk.l0
  have hkl1 := hk.l1
  have hkh1 := hk.h1
  have hord : HA.n ≤ A0 ∧ A0 ≤ A1 ∧ A1 ≤ HL.n := by omega
  clear hty hgy hcy hry hqy hgx hcx hrx hq kx ky hBx hBy lx ly kL
  repeat' first
    | refine CO.cons rfl ?_
    | refine CO.nil ?_
    | refine CV.seq ?_
    | refine CV.region callees ?_
    | refine CV.block ?_
    | fail
  refine CV.loopc ?_
  refine WCv.rounds callees false (α := Nat × Value × List Value × Value × (Nat → List Int)) (fun (i, dq, dws, lv, M) => [(4, .pointer (some ⟨bc, 0, none⟩)), (5, .pointer (some ⟨ba, 0, none⟩)), (8, dq), (9, lq), (10, VI i)]) (fun (i, dq, dws, lv, M) Hz => i ≤ L.length ∧ Hz.get ba = some (.cells (Tol (dayF mk lo hh ls ((L.take i).filter (dueB mk lo hh ls))).1.1 (dayF mk lo hh ls ((L.take i).filter (dueB mk lo hh ls))).1.2 lv h) tT 1) ∧ OwnSp Hz lv (dayF mk lo hh ls ((L.take i).filter (dueB mk lo hh ls))).2 HA.n ∧ (∀ c, blkOf lv = some c → c < A0 ∨ HL.n ≤ c) ∧ HTab Hz h rv M A0 A1 ∧ (∀ d : Nat, d < 30 → ∀ x, x ∈ M d ↔ ∃ o ∈ (L.take i).filter (dueB mk lo hh ls), x ∈ gathK (d : Int) [] (-1) (evsL mk lo hh ls o)) ∧ Own iT Hz dq dws HL.n ∧ dws.length = ((L.take i).filter (dueB mk lo hh ls)).length ∧ (∀ j, j < dws.length → Ints HL dws[j]! (((L.take i).filter (dueB mk lo hh ls))[j]!) ∧ ∀ c, blkOf dws[j]! = some c → A1 ≤ c ∧ c < HL.n) ∧ HL.n ≤ Hz.n ∧ (∀ c, c < HL.n → ((c < A0 ∧ c ≠ ba) ∨ A1 ≤ c) → Hz.get c = HL.get c)) (fun (i, dq, dws, lv, M) => L.length - i) (0, nilS, [], q, fun _ => []) (by repeat' first | exact trivial | refine ⟨rfl, ?_⟩ | refine ⟨slot_int (by (try simp only [Int.toNat_natCast]); omega), ?_⟩) ?_ ?_
  · exact ⟨by omega, hgL, hqL, fun c hc => by have := hqA0 c hc; omega, hhv, fun d _ x => by simp, .inl ⟨rfl, rfl⟩, rfl, fun j hj => by simp at hj, Nat.le_refl _, fun _ _ _ => rfl⟩
  clear hgL hqL hhv
  rintro ⟨i, dq, dws, lv, M⟩ Hx ⟨hi, hgx, hlv, hlb, htx, hM, hdq, hdl, hdw, lx, fx⟩ hBx
  have hcx := (fx bc (by omega) (by omega)).trans hcL
  have hfr0 : ∀ {Z : Heap}, HL.n ≤ Z.n → (∀ c, c < HL.n → ((c < A0 ∧ c ≠ ba) ∨ A1 ≤ c) → Z.get c = HL.get c) → RowS 4 Z sv (ls.map Lkl) := fun {Z} h1 h2 => Fr.rowS (A0 := ba) (A1 := 0) (A2 := 0) (A3 := HL.n) hrL ⟨h1, fun c hc hp => h2 c hc (by omega)⟩ fun c hc => .inl (hba.2.2 c hc)
  have hrx := hfr0 lx fx
  have hox : OwnQ Hx lq lws L A1 := hol.same lx fun c hc => fx c (hol.lt hc).2 (.inr (hol.lt hc).1)
  by_cases hi2 : i < L.length
  · have hsn := filtS (P := dueB mk lo hh ls) hi2
    obtain ⟨hw1, hw2⟩ := hLm L[i]! (by rw [getElem!_pos L i hi2]; exact List.getElem_mem _)
    have had := hox.gri.addr hi2
    have hld := fun (Z : Heap) (k : Keep Hx Z) => (hox.keep k).gri.load hi2
    have hwi : Ints Hx lws[i]! L[i]! := hox.gri.ints i hi2
    have hwb : ∀ c, blkOf lws[i]! = some c → A1 ≤ c ∧ c < HL.n := fun c hc => hol.lt (.inr ⟨i, hi2, hc⟩)
    have hwo : oneC lws[i]! = true := (Row.oneC hwi).1
    obtain ⟨S, hS⟩ : ∃ S, (L.take i).filter (dueB mk lo hh ls) = S := ⟨_, rfl⟩
    have hSl : S.length ≤ 256 := by rw [← hS]; exact Nat.le_trans (List.length_filter_le _ _) (by rw [List.length_take]; omega)
    rw [hS] at hgx hlv hM hdl hdw hsn
    obtain ⟨w, hw⟩ : ∃ w, L[i]! = w := ⟨_, rfl⟩
    rw [hw] at hw1 hw2 hwi hsn
    have hDl := dayF_len (mk := mk) (lo := lo) (hi := hh) (ls := ls) (S := S)
    have hDb := dayF_bd (mk := mk) (lo := lo) (hi := hh) (ls := ls) (S := S) (st := ((100000, 0), List.replicate ls.length (100000, 0)))
    have hDn : dayF mk lo hh ls (S ++ [w]) = dayO mk lo hh ls (dayF mk lo hh ls S) w := dayF_snoc
    have hDb' : (dayF mk lo hh ls S).1.1 ≤ 100000 ∧ 0 ≤ (dayF mk lo hh ls S).1.2 := hDb
    obtain ⟨st, hsE⟩ : ∃ st, dayF mk lo hh ls S = st := ⟨_, rfl⟩
    rw [hsE] at hgx hlv hDl hDb' hDn
    clear hDb
    repeat' first
      | refine CO.cons rfl ?_
      | refine CO.nil ?_
      | refine CV.seq ?_
      | refine CV.region callees ?_
      | refine CV.cond ?_
      | refine CV.block ?_
      | refine CV.skip ?_
      | refine CV.draw callees (by decide +kernel) ?_
      | refine CH.cons rfl ?_
      | refine CH.nil ?_
      | (refine ⟨_, hox.gri.alen, ?_⟩)
      | (refine ⟨_, ldCh hcx, ?_⟩)
      | (refine ⟨_, had, ?_⟩)
      | (refine ⟨_, hld _ (Keep.refl _), ?_⟩)
      | (refine ⟨fun _ => ?_, fun _ => ?_⟩ <;> first | (exfalso; omega) | skip)
      | fail
    refine (linked_spec (by omega) hrx hwi hw2 (by omega)).mono ?_
    cases hlk : linkB ls mk w
    · have hP : dueB mk lo hh ls w = false := by unfold dueB; rw [hlk]; rfl
      rw [hP, if_neg (by simp), List.append_nil] at hsn
      rintro r H5 ⟨rfl, k5⟩
      have l5 := k5.1
      repeat' first
        | refine CO.cons rfl ?_
        | refine CO.nil ?_
        | refine CV.region callees ?_
        | refine CV.cond ?_
        | refine CV.exit ?_
        | refine CH.cons rfl ?_
        | refine CH.nil ?_
        | refine ⟨(⟨by omega, by omega⟩ : inI64 _), ?_⟩
        | fail
      refine ⟨(i + 1, dq, dws, lv, M), (by repeat' first | exact trivial | refine ⟨rfl, ?_⟩ | refine ⟨slot_int (by (try simp only [Int.toNat_natCast]); omega), ?_⟩), (by (try dsimp only); omega), ?_⟩
      dsimp only
      rw [hsn, hsE]
      exact ⟨by omega, (k5.2 ba (by omega)).trans hgx, OwnS.keep hlv k5, hlb, htx.keep k5, hM, hdq.keep k5, hdl, hdw, by omega, fun c h1 h2 => (k5.2 c (by omega)).trans (fx c h1 h2)⟩
    rintro r H5 ⟨rfl, k5⟩
    have l5 := k5.1
    have hg5 := (k5.2 ba (by omega)).trans hgx
    have hlv5 := OwnS.keep hlv k5
    have ht5 := htx.keep k5
    repeat' first
      | refine CO.nil ?_
      | refine CV.seq ?_
      | refine CV.cond ?_
      | refine CV.skip ?_
      | refine CH.cons rfl ?_
      | refine CH.nil ?_
      | refine CR.cons (es := []) ?_
      | refine CV.al callees (by decide +kernel) 7 [(1, []), (2, []), (4, []), (5, []), (0, [5, 2]), (3, [5]), (6, []), (7, [6, 5]), (8, [])] (by kernel_rfl) rfl alTo ?_
      | (refine ⟨_, fS foT1 (by decide), ?_⟩)
      | (refine ⟨_, fS foT2 (by decide), ?_⟩)
      | (refine ⟨_, cell_load agSs hg5 rfl, ?_⟩)
      | fail
    refine CR.call ?_
    refine (spanF_spec (Nat.le_refl _)).mono ?_
    rintro r H6 ⟨rfl, k6⟩
    have l6 := k6.1
    repeat' first
      | fail
    refine CR.call ?_
    refine (spansK_spec (Nat.le_refl _) (OwnS.row (OwnS.keep hlv5 k6)) (by omega)).mono ?_
    rintro ov H7 ⟨hov, k7⟩
    have l7 := k7.1
    have k57 : Keep Hx H7 := (k5.trans k6).trans k7
    have hbu : abuild Try.prog tT [(0, Spv 100000 (-1)), (1, ov), (2, h)] = some (.agg #[VI 100000, VI (-1), ov, h]) := by
      obtain ⟨x1, n1, c1, rfl⟩ := rowS_slc (OwnS.row hov)
      obtain ⟨x2, n2, c2, rfl⟩ := row_sl htx.row.row
      exact buTo0
    repeat' first
      | refine CR.cons (es := []) ?_
      | (refine ⟨_, hbu, ?_⟩)
      | fail
    refine CR.cons ?_
    refine ⟨_, _, alTo, ?_⟩
    generalize hst : Heap.new H7 _ = Ht
    have hgt := new_get hst
    have kt := new_keep hst
    have nt := new_n hst
    obtain ⟨bt, hbnt⟩ : ∃ b, Heap.n H7 = b := ⟨_, rfl⟩
    rw [hbnt] at hgt nt ⊢
    repeat' first
      | refine CR.cons ?_
      | fail
    refine ⟨_, _, stToW (OwnS.oneC (OwnS.keep hov kt)) (Row.oneC (htx.row.keep (k57.trans kt)).row).1 hgt, by omega, ?_⟩
    generalize hsW : Heap.set Ht bt _ = HW
    have hgW : HW.get bt = some (.cells (Tol 100000 (-1) ov h) tT 1) := set_get hsW
    have nW := set_n hsW
    have oW := set_old hsW
    have k7W : Keep H7 HW := keep_put kt (by omega) oW nW
    have kxW : Keep Hx HW := k57.trans k7W
    have lW := kxW.1
    have hovb : ∀ c, blkOf ov = some c → H6.n ≤ c ∧ c < H7.n := fun c hc => OwnS.lt hov hc
    have hTW : Told HW bt ov h rv (((100000, -1), st.2), M) A0 A1 Hx.n HW.n ls.length :=
      ⟨hgW, ⟨(OwnS.keep hov k7W).1, by rcases (OwnS.keep hov k7W).2 with h1 | ⟨q', h1, h2, h3, h4⟩; exact .inl h1; exact .inr ⟨q', h1, by omega, h3, h4⟩⟩, fun c hc => by have := hovb c hc; omega, htx.keep kxW, hDl, ⟨by omega, by omega, Nat.le_refl _⟩⟩
    have hcW := (kxW.2 bc (by omega)).trans hcx
    have hrW := hrx.keep kxW
    have hoxW := hox.keep kxW
    have hgaW := (kxW.2 ba (by omega)).trans hgx
    have hwiW : Ints HW lws[i]! w := Row.keep hwi kxW
    have htell := tell_spec (B := H.n) (A0 := A0) (A1 := A1) (A2 := Hx.n) (A3 := HW.n) (bt := bt) (mk := mk) (lo := lo) (hi := hh) (sv := sv) (ov := lws[i]!) (lv := ov) (hv := h) (rv := rv) (ls := ls) (o := w) (by omega) (by omega) (by omega) hk.ok hkl0 hkh1 (by omega) hw2 (by omega) ⟨hk.m0, hk.m1⟩ hto (fun c hc => by have := hba.2.2 c hc; omega) (fun c hc => by have := hwb c hc; omega) (w.length + 1) [] nilS _ HW (by simp) (.inl rfl) hrW hwiW (.inl ⟨rfl, rfl⟩) (fun c hc => by cases hc) hTW
    rw [stoX_start] at htell
    repeat' first
      | refine CV.seq ?_
      | refine CR.cons (es := []) ?_
      | refine CR.nil ?_
      | refine CV.mX callees (by decide +kernel) [(0, []), (1, []), (2, []), (3, []), (4, []), (5, [])] (by kernel_rfl) ?_
      | (refine ⟨_, ldCh hcW, ?_⟩)
      | (refine ⟨_, had, ?_⟩)
      | (refine ⟨_, hld _ kxW, ?_⟩)
      | fail
    refine htell.mono ?_
    rintro r H8 ⟨hT8, fr8⟩
    obtain ⟨hf1, hf2⟩ := updT_fold (E := raw mk lo hh ls w) (L := stoF (raw mk lo hh ls w) (-1)) (T := (((100000, -1), st.2), M))
    simp only at hf1 hf2
    obtain ⟨T8, hT8e⟩ : ∃ T, (stoF (raw mk lo hh ls w) (-1)).foldl (updT (raw mk lo hh ls w)) (((100000, -1), st.2), M) = T := ⟨_, rfl⟩
    rw [hT8e] at hT8 hf1 hf2
    have l8 := fr8.le
    have hga8 := (fr8.get ba (by omega) (.inl (by omega))).trans hgaW
    have hlv8 : OwnSp H8 lv st.2 HA.n := own_keepFS (OwnS.keep hlv kxW) l8 fun c hc => by
      have h1 := hlb c hc
      have h2 := (OwnS.lt hlv hc).2
      exact fr8.get c (by omega) (by omega)
    have hdq8 : Own iT H8 dq dws HL.n := own_keepF (hdq.keep kxW) l8 fun c hc => by
      have h1 := hdq.lt hc
      exact fr8.get c (by omega) (.inr (.inl ⟨by omega, by omega⟩))
    have hfx8 : ∀ c, c < HL.n → ((c < A0 ∧ c ≠ ba) ∨ A1 ≤ c) → H8.get c = HL.get c := fun c h1 h2 => (fr8.get c (by omega) (by omega)).trans ((kxW.2 c (by omega)).trans (fx c h1 h2))
    by_cases hsto : stoF (raw mk lo hh ls w) (-1) = []
    · have hP : dueB mk lo hh ls w = false := by unfold dueB; rw [hsto]; simp
      rw [hP, if_neg (by simp), List.append_nil] at hsn
      have hT1 : T8.1 = ((100000, -1), st.2) := by rw [hf1, hsto]; rfl
      have hc8 := hT8.c
      rw [hT1] at hc8
      dsimp only at hc8
      repeat' first
        | refine CO.cons rfl ?_
        | refine CO.nil ?_
        | refine CV.seq ?_
        | refine CV.region callees ?_
        | refine CV.cond ?_
        | refine CV.skip ?_
        | refine CR.nil ?_
        | refine ⟨(⟨by omega, by omega⟩ : inI64 _), ?_⟩
        | (refine ⟨_, fS foT0 (by decide), ?_⟩)
        | (refine ⟨_, fS foS1 (by decide), ?_⟩)
        | (refine ⟨_, cell_load ag3 hc8 rfl, ?_⟩)
        | (refine ⟨fun _ => ?_, fun _ => ?_⟩ <;> first | (exfalso; omega) | skip)
        | fail
      refine ⟨(i + 1, dq, dws, lv, T8.2), (by repeat' first | exact trivial | refine ⟨rfl, ?_⟩ | refine ⟨slot_int (by (try simp only [Int.toNat_natCast]); omega), ?_⟩), (by (try dsimp only); omega), ?_⟩
      dsimp only
      rw [hsn, hsE]
      refine ⟨by omega, hga8, hlv8, hlb, hT8.h, fun d hd x => ?_, hdq8, hdl, hdw, by omega, hfx8⟩
      rw [hf2, hsto]
      simp only [List.not_mem_nil, false_and, exists_false, or_false]
      exact hM d hd x
    · have hch := (some_chain (mk := mk) (hi := hh) (o := w) hkl0 hkl1 hw2).1 ⟨hlk, hsto⟩
      have hP : dueB mk lo hh ls w = true := by
        unfold dueB
        rw [hlk]
        cases hs : stoF (raw mk lo hh ls w) (-1) with
        | nil => exact absurd hs hsto
        | cons a t => rfl
      rw [hP, if_pos rfl] at hsn
      obtain ⟨hm1, hm2⟩ := one_more (st := st) hkl0 hkl1 hch hDl hDb'.1 hDb'.2
      rw [← hf1] at hm1 hm2
      have hc8 := hT8.c
      have hox8 := OwnQ.same (H' := H8) hoxW l8 fun c hc => by
        have h1 := hol.lt hc
        exact fr8.get c (by omega) (.inr (.inl ⟨by omega, by omega⟩))
      have had8 := hox8.gri.addr hi2
      have hld8 := hox8.gri.load hi2
      repeat' first
        | refine CO.cons rfl ?_
        | refine CO.nil ?_
        | refine CV.seq ?_
        | refine CV.region callees ?_
        | refine CV.cond ?_
        | refine CR.nil ?_
        | (refine ⟨_, fS foT0 (by decide), ?_⟩)
        | (refine ⟨_, fS foS1 (by decide), ?_⟩)
        | (refine ⟨_, cell_load ag3 hc8 rfl, ?_⟩)
        | (refine ⟨_, had8, ?_⟩)
        | (refine ⟨_, hld8, ?_⟩)
        | (refine ⟨_, _, build_one unG oneN hwo, ?_⟩)
        | (refine ⟨fun _ => ?_, fun _ => ?_⟩ <;> first | (exfalso; omega) | skip)
        | fail
      refine append_askW unG oneN (by omega) hdq8 (by omega) (by omega) (by omega) ?_
      intro q9 H9 hq9 kb9 hf9
      have l9 := kb9.le
      have hdqa : ∀ c, blkOf dq = some c → HL.n ≤ c ∧ c < Hx.n := fun c hc => hdq.lt hc
      have hT8b := hT8.b
      have hc9 := (kb9.get bt (by omega) fun h => by have := hdqa bt h; omega).trans hc8
      have hga9 := (kb9.get ba (by omega) fun h => by have := hdqa ba h; omega).trans hga8
      repeat' first
        | refine CO.cons rfl ?_
        | refine CO.nil ?_
        | refine CV.seq ?_
        | refine CV.region callees ?_
        | refine ⟨_, fun tm ha => step1_max rfl (ev_tmp ha rfl) (ev_tmp ha rfl), ?_⟩
        | refine ⟨_, fun tm ha => step1_min rfl (ev_tmp ha rfl) (ev_tmp ha rfl), ?_⟩
        | (refine ⟨_, fS foT0 (by decide), ?_⟩)
        | (refine ⟨_, fS foS0 (by decide), ?_⟩)
        | (refine ⟨_, fS foS1 (by decide), ?_⟩)
        | (refine ⟨_, cell_load ag3 hc9 rfl, ?_⟩)
        | (refine ⟨_, cell_load ag3 hga9 rfl, ?_⟩)
        | (refine ⟨_, buSp, ?_⟩)
        | fail
      refine ⟨_, _, stTo hga9, by omega, ?_⟩
      generalize hsB : Heap.set H9 ba _ = HB
      have hgB : HB.get ba = some (.cells (Tol (min st.1.1 T8.1.1.1) (max st.1.2 T8.1.1.2) lv h) tT 1) := set_get hsB
      have nB := set_n hsB
      have oB := set_old hsB
      have hcB := (oB bt (by omega)).trans hc9
      repeat' first
        | refine CO.cons rfl ?_
        | refine CO.nil ?_
        | refine CV.region callees ?_
        | (refine ⟨_, fS foT1 (by decide), ?_⟩)
        | (refine ⟨_, cell_load agSs hcB rfl, ?_⟩)
        | fail
      refine ⟨_, _, store_row (i := 0 + 2) szSs hgB (by show 0 + 2 < 4; decide) (OwnS.oneC hT8.l), by omega, ?_⟩
      generalize hsC : Heap.set HB ba _ = HC
      have hgC : HC.get ba = some (.cells (Tol (min st.1.1 T8.1.1.1) (max st.1.2 T8.1.1.2) ov h) tT 1) := set_get hsC
      have nC := set_n hsC
      have oC := set_old hsC
      have o9C : ∀ c, c ≠ ba → HC.get c = H9.get c := fun c hc => (oC c hc).trans (oB c hc)
      repeat' first
        | refine CO.cons rfl ?_
        | refine CO.nil ?_
        | refine CV.region callees ?_
        | refine ⟨(⟨by omega, by omega⟩ : inI64 _), ?_⟩
        | fail
      refine ⟨(i + 1, q9, dws ++ [lws[i]!], ov, T8.2), (by repeat' first | exact trivial | refine ⟨rfl, ?_⟩ | refine ⟨slot_int (by (try simp only [Int.toNat_natCast]); omega), ?_⟩), (by (try dsimp only); omega), ?_⟩
      have hqn : ∀ c, blkOf ov = some c → HL.n ≤ c ∧ c < H8.n := fun c hc => by have := hovb c hc; omega
      have hovd : ∀ c, blkOf ov = some c → blkOf dq ≠ some c := fun c hc h => by have := hovb c hc; have := hdqa c h; omega
      dsimp only
      rw [hsn, hDn, hm1]
      refine ⟨by omega, hgC, ?_, fun c hc => .inr (hqn c hc).1, ?_, fun d hd x => ?_, own_keepF hq9 (by omega) fun c hc => o9C c (by have := (hq9.lt hc).1; omega), by simp [hdl], fun j hj => ?_, by omega, fun c h1 h2 => (o9C c (by omega)).trans ((kb9.get c (by omega) fun h => by have := hdqa c h; omega).trans (hfx8 c h1 h2))⟩
      · exact own_keepFS ⟨hT8.l.1, by rcases hT8.l.2 with h1 | ⟨q', h1, h2, h3, h4⟩; exact .inl h1; exact .inr ⟨q', h1, by omega, h3, h4⟩⟩ (by omega) fun c hc => (o9C c (by have := hqn c hc; omega)).trans (kb9.get c (hqn c hc).2 (hovd c hc))
      · refine hT8.h.same (by omega) fun c h0 h1 h2 => (o9C c (by omega)).trans (kb9.get c h0 fun h => by have := hdqa c h; omega)
      · rw [hf2, hM d hd x]
        have hwho := sto_who (x := (d : Int)) (y := x) hkl0 hkl1 hch
        simp only [List.mem_append, List.mem_singleton]
        constructor
        · rintro (⟨o, ho, h⟩ | h)
          · exact ⟨o, .inl ho, h⟩
          · exact ⟨w, .inr rfl, hwho.1 h⟩
        · rintro ⟨o, ho | rfl, h⟩
          · exact .inl ⟨o, ho, h⟩
          · exact .inr (hwho.2 h)
      · rw [List.length_append, List.length_singleton] at hj
        by_cases hj2 : j < dws.length
        · rw [at_lt hj2, show (S ++ [w])[j]! = S[j]! by rw [getElem!_pos _ j (by rw [List.length_append]; omega), List.getElem_append_left (by omega), getElem!_pos S j (by omega)]]
          exact hdw j hj2
        · rw [at_eq (by omega), show (S ++ [w])[j]! = w by rw [getElem!_pos _ j (by rw [List.length_append, List.length_singleton]; omega), List.getElem_append_right (by omega)]; simp]
          refine ⟨?_, hwb⟩
          rw [← hw]
          exact hol.gri.ints i hi2
  obtain rfl : i = L.length := by omega
  rw [List.take_length, show L.filter (dueB mk lo hh ls) = ordersL mk lo ls from hdue] at hgx hlv hM hdl hdw
  have hDl := dayF_len (mk := mk) (lo := lo) (hi := hh) (ls := ls) (S := ordersL mk lo ls)
  have hSn := orders_len (mk := mk) (lo := lo) (ls := ls) hls7
  obtain ⟨⟨⟨da, db⟩, dps⟩, hst⟩ : ∃ st, dayF mk lo hh ls (ordersL mk lo ls) = st := ⟨_, rfl⟩
  rw [hst] at hgx hlv hDl
  dsimp only at hgx hlv hDl
  repeat' first
    | refine CO.cons rfl ?_
    | refine CO.nil ?_
    | refine CV.seq ?_
    | refine CV.region callees ?_
    | refine CV.cond ?_
    | refine CV.exit ?_
    | (refine ⟨_, hox.gri.alen, ?_⟩)
    | (refine ⟨_, ldCh hcx, ?_⟩)
    | (refine ⟨fun _ => ?_, fun _ => ?_⟩ <;> first | (exfalso; omega) | skip)
    | fail
  refine (daysP_spec (by omega) hrx).mono ?_
  rw [if_pos hc, hc, hst]
  rintro r I1 ⟨⟨mq, ea, eb, eps, rfl, hmr, heq⟩, j1⟩
  cases heq
  have li1 := j1.1
  repeat' first
    | refine CO.cons rfl ?_
    | (refine ⟨_, _, alSp, ?_⟩)
    | fail
  generalize hsm : Heap.new I1 _ = Hm
  have hgm := new_get hsm
  have km := new_keep hsm
  have nm := new_n hsm
  obtain ⟨bm, hbnm⟩ : ∃ b, Heap.n I1 = b := ⟨_, rfl⟩
  rw [hbnm] at hgm nm ⊢
  repeat' first
    | fail
  refine ⟨_, _, stSp hgm, by omega, ?_⟩
  generalize hsM : Heap.set Hm bm _ = HM
  have hgM : HM.get bm = some (.cells ([VI da, VI db]) sT 1) := set_get hsM
  have nM := set_n hsM
  have oM := set_old hsM
  have jM : Keep Hx HM := j1.trans (keep_put km (by omega) oM nM)
  have lM := jM.1
  have hcM := (jM.2 bc (by omega)).trans hcx
  have hrM := hrx.keep jM
  repeat' first
    | refine CO.cons rfl ?_
    | refine CO.nil ?_
    | refine CV.seq ?_
    | refine CV.region callees ?_
    | (refine ⟨_, ldCh hcM, ?_⟩)
    | fail
  refine (ordersP_spec (by omega) hrM).mono ?_
  rw [if_pos hc, hc]
  rintro r I2 ⟨⟨oq, ows, rfl, hoq⟩, j2⟩
  have li2 := j2.1
  have jx2 := jM.trans j2
  have hg2 := (jx2.2 ba (by omega)).trans hgx
  have hm2 := (j2.2 bm (by omega)).trans hgM
  have hmr2 : RowS 2 I2 mq (dps.map Spl) := (hmr.keep (keep_put km (by omega) oM nM)).keep j2
  have hlv2 : RowS 2 I2 lv (dps.map Spl) := OwnS.row (OwnS.keep hlv jx2)
  have hdqG : Gri I2 dq dws (ordersL mk lo ls) := ⟨(hdq.keep jx2).row, hdl, fun j hj => Row.keep (Fr.row (A0 := 0) (A1 := A1) (A2 := HL.n) (A3 := HL.n) (hdw j (by omega)).1 ⟨lx, fun c h1 h2 => fx c h1 (by omega)⟩ (fun c hc => .inr (.inl ((hdw j (by omega)).2 c hc)))) jx2⟩
  have hSm : ∀ j, j < (ordersL mk lo ls).length → (ordersL mk lo ls)[j]!.length < 1000000 := fun j hj => by
    have := (orders_mem.1 (show (ordersL mk lo ls)[j]! ∈ ordersL mk lo ls by rw [getElem!_pos _ j hj]; exact List.getElem_mem _)).1
    omega
  have ht2 := htx.keep jx2
  have hc2 := (jx2.2 bc (by omega)).trans hcx
  have hr2 := hrx.keep jx2
  repeat' first
    | refine CO.cons rfl ?_
    | refine CO.nil ?_
    | refine CV.seq ?_
    | refine CV.region callees ?_
    | refine CO.consG rfl ?_
    | (refine ⟨_, ldSp hm2, ?_⟩)
    | (refine ⟨_, fS foT0 (by decide), ?_⟩)
    | (refine ⟨_, ldTo0 hg2, ?_⟩)
    | (refine ⟨_, fun tm ha => step1_neSp rfl (ev_tmp ha rfl) (ev_tmp ha rfl), ?_⟩)
    | (refine ⟨_, fS foT1 (by decide), ?_⟩)
    | (refine ⟨_, cell_load agSs hg2 rfl, ?_⟩)
    | (refine ⟨fun _ => ?_, fun _ => ?_⟩ <;> first | (exfalso; omega) | skip)
    | fail
  refine (eqSpansK_spec (by omega) hmr2 hlv2 (by omega)).mono ?_
  rintro r I3 ⟨rfl, rfl⟩
  repeat' first
    | refine CO.cons rfl ?_
    | refine CO.consG rfl ?_
    | fail
  refine (eqLists_spec (by omega) hoq.gri hdqG (by omega) hSm).mono ?_
  rintro r I4 ⟨rfl, j4⟩
  have li4 := j4.1
  have hg4 := (j4.2 ba (by omega)).trans hg2
  have hc4 := (j4.2 bc (by omega)).trans hc2
  have hr4 := hr2.keep j4
  have ht4 := ht2.keep j4
  have hMk : ∀ d : Nat, d < 30 → ∀ x, x ∈ M d ↔ x ∈ keysF mk lo hh ls (d : Int) (ordersL mk lo ls) := fun d hd x => by rw [hM d hd x, keysF_mem]
  clear hM hmr hmr2 hlv2 hdqG hSm ht2 hc2 hr2 hg2 hm2 hgM hgm hcM hrM hlv hlb hdq hdl hdw hox htx hgx hcx hrx fx hoq
  have hlen : ∀ {Z : Heap}, Keep I4 Z → alen Try.prog Z 85 h = some (VI 30) := fun k => by
    have := (ht4.keep k).row.row.alen unBB
    rw [ht4.n] at this
    exact this
  repeat' first
    | refine CO.cons rfl ?_
    | refine CO.nil ?_
    | refine CV.seq ?_
    | refine CV.region callees ?_
    | refine CV.cond ?_
    | refine CV.block ?_
    | refine CV.skip ?_
    | refine CO.consG rfl ?_
    | fail
  refine CV.loopc ?_
  refine WCv.rounds callees false (α := Nat) (fun d => [(4, .pointer (some ⟨bc, 0, none⟩)), (5, .pointer (some ⟨ba, 0, none⟩)), (17, VI d)]) (fun d Hz => d ≤ 30 ∧ Keep I4 Hz) (fun d => 30 - d) (0) (by repeat' first | exact trivial | refine ⟨rfl, ?_⟩ | refine ⟨slot_int (by (try simp only [Int.toNat_natCast]); omega), ?_⟩) ?_ ?_
  · exact ⟨by omega, Keep.refl _⟩
  rintro d Hz ⟨hd, kz⟩ hBz
  have lz := kz.1
  have hgz := (kz.2 ba (by omega)).trans hg4
  have hcz := (kz.2 bc (by omega)).trans hc4
  have hlz := hlen kz
  by_cases hd2 : d < 30
  rotate_left
  · obtain rfl : d = 30 := by omega
    repeat' first
      | refine CO.cons rfl ?_
      | refine CO.nil ?_
      | refine CV.seq ?_
      | refine CV.region callees ?_
      | refine CV.cond ?_
      | refine CV.exit ?_
      | (refine ⟨_, fS foT2 (by decide), ?_⟩)
      | (refine ⟨_, cell_load agBB hgz rfl, ?_⟩)
      | (refine ⟨_, hlz, ?_⟩)
      | (refine ⟨fun _ => ?_, fun _ => ?_⟩ <;> first | (exfalso; omega) | skip)
      | fail
    refine (awake_spec (by omega)).mono ?_
    rintro r I5 ⟨rfl, j5⟩
    repeat' first
      | refine CO.cons rfl ?_
      | refine CO.nil ?_
      | refine CV.ret ?_
      | fail
    exact ⟨rfl, rfl⟩
  have hin : inB (d : Int) 0 100000 = true := by simp [inB]; omega
  have he0 : hoE mk lo hh ls (d : Int) = 0 := by unfold hoE; rw [if_pos hc, hin]; rfl
  have hx0 : hoX mk lo hh ls (d : Int) = hoL mk lo hh ls (d : Int) := by unfold hoX; rw [if_pos hc, hin]; rfl
  repeat' first
    | refine CO.cons rfl ?_
    | refine CO.nil ?_
    | refine CV.seq ?_
    | refine CV.region callees ?_
    | refine CV.cond ?_
    | refine CV.block ?_
    | refine CV.skip ?_
    | (refine ⟨_, fS foT2 (by decide), ?_⟩)
    | (refine ⟨_, cell_load agBB hgz rfl, ?_⟩)
    | (refine ⟨_, hlz, ?_⟩)
    | (refine ⟨_, ldCh hcz, ?_⟩)
    | (refine ⟨fun _ => ?_, fun _ => ?_⟩ <;> first | (exfalso; omega) | skip)
    | fail
  refine (holders_spec (by omega) (hr4.keep kz)).mono ?_
  rw [he0, hx0]
  rintro r I5 ⟨⟨hq, rfl, hhq⟩, j5⟩
  have li5 := j5.1
  have kz5 := kz.trans j5
  have hhr : Ints I5 hq (hoL mk lo hh ls (d : Int)) := hhq.row
  have hLn := hoL_len (mk := mk) (lo := lo) (hh := hh) (ls := ls) (d := (d : Int))
  have hall := cntT_all (hMk d hd2)
  have hio := fun (k : Nat) (hk : k < 21) => hoL_iff (mk := mk) (lo := lo) (hi := hh) (d := (d : Int)) (ls := ls) hk
  obtain ⟨hol2, hhl⟩ : ∃ l, hoL mk lo hh ls (d : Int) = l := ⟨_, rfl⟩
  rw [hhl] at hhr hLn hall hio
  have ht5 := ht4.keep kz5
  have hg5 := (kz5.2 ba (by omega)).trans hg4
  have hrow := ht5.own d hd2
  have had : aindexAddr Try.prog 85 h (VI d) = some (elemAt h d) := ht5.row.row.addr unBB szB1 (by omega) (by rw [ht5.n]; omega)
  have hld : aload Try.prog bbT I5 (elemAt h d) = some rv[d]! := ht5.row.row.load agB1 (by rw [List.getElem?_eq_getElem (by rw [ht5.n]; exact hd2), getElem!_pos rv d (by rw [ht5.n]; exact hd2)])
  have hc0 : cntT (M d) 0 = 0 := rfl
  repeat' first
    | refine CO.cons rfl ?_
    | refine CO.nil ?_
    | refine CV.seq ?_
    | refine CV.region callees ?_
    | refine CV.block ?_
    | fail
  refine CV.loopc ?_
  refine WCv.rounds callees false (α := Nat) (fun k => [(4, .pointer (some ⟨bc, 0, none⟩)), (5, .pointer (some ⟨ba, 0, none⟩)), (17, VI d), (18, hq), (19, VI 0), (20, VI (cntT (M d) k : Nat)), (21, VI k)]) (fun k Hz => k ≤ 21 ∧ Hz = I5) (fun k => 21 - k) (0) (by repeat' first | exact trivial | refine ⟨rfl, ?_⟩ | refine ⟨slot_int (by (try simp only [Int.toNat_natCast]); omega), ?_⟩) ?_ ?_
  · exact ⟨by omega, rfl⟩
  rintro k Hk ⟨hk21, rfl⟩ hBk
  have hck := cntT_le (M := M d) (k := k)
  by_cases hk2 : k < 21
  rotate_left
  · obtain rfl : k = 21 := by omega
    repeat' first
      | refine CO.cons rfl ?_
      | refine CO.nil ?_
      | refine CV.seq ?_
      | refine CV.region callees ?_
      | refine CV.cond ?_
      | refine CV.skip ?_
      | refine CV.exit ?_
      | refine ⟨_, ints_len (by assumption), ?_⟩
      | refine ⟨(⟨by omega, by omega⟩ : inI64 _), ?_⟩
      | (refine ⟨fun _ => ?_, fun _ => ?_⟩ <;> first | (exfalso; omega) | skip)
      | fail
    refine ⟨(d + 1), (by repeat' first | exact trivial | refine ⟨rfl, ?_⟩ | refine ⟨slot_int (by (try simp only [Int.toNat_natCast]); omega), ?_⟩), (by (try dsimp only); omega), ?_⟩
    exact ⟨by omega, kz5⟩
  have hadk := tab_addr hrow (n := (k : Int)) (by omega) (by omega)
  have hldk := tab_load hrow.row hk2
  have htk := tabM_at (M := M d) hk2
  have hsame : decide ((k : Int) - 1 ∈ hol2) = (tabM (M d))[k]! := by
    rw [htk]
    congr 1
    exact propext ((hio k hk2).trans (hMk d hd2 _).symm)
  have hcs : cntT (M d) (k + 1) = cntT (M d) k + if (tabM (M d))[k]! = true then 1 else 0 := rfl
  obtain ⟨x, hx⟩ : ∃ x, (tabM (M d))[k]! = x := ⟨_, rfl⟩
  rw [hx] at hldk hsame hcs
  cases x
  · rw [if_neg (by simp), Nat.add_zero] at hcs
    repeat' first
      | refine CO.cons rfl ?_
      | refine CO.nil ?_
      | refine CV.seq ?_
      | refine CV.region callees ?_
      | refine CV.cond ?_
      | refine CV.block ?_
      | refine CV.skip ?_
      | refine CV.draw callees (by decide +kernel) ?_
      | refine CH.cons rfl ?_
      | refine CH.consG rfl ?_
      | refine ⟨(⟨by omega, by omega⟩ : inI64 _), ?_⟩
      | (refine ⟨_, fS foT2 (by decide), ?_⟩)
      | (refine ⟨_, cell_load agBB hg5 rfl, ?_⟩)
      | (refine ⟨_, had, ?_⟩)
      | (refine ⟨_, hld, ?_⟩)
      | (refine ⟨_, hadk, ?_⟩)
      | (refine ⟨_, hldk, ?_⟩)
      | (refine ⟨fun _ => ?_, fun _ => ?_⟩ <;> first | (exfalso; omega) | skip)
      | fail
    refine (has_spec (t := (k : Int) - 1) (by omega) hhr (by omega)).mono ?_
    rw [hsame]
    rintro r I6 ⟨rfl, rfl⟩
    repeat' first
      | refine CO.cons rfl ?_
      | refine CO.nil ?_
      | refine CV.region callees ?_
      | refine CV.cond ?_
      | refine CV.skip ?_
      | refine CH.cons rfl ?_
      | refine CH.nil ?_
      | refine CH.consG rfl ?_
      | refine ⟨(rfl : plain _ = true), ?_⟩
      | refine ⟨(⟨by omega, by omega⟩ : inI64 _), ?_⟩
      | (refine ⟨_, fS foT2 (by decide), ?_⟩)
      | (refine ⟨_, cell_load agBB hg5 rfl, ?_⟩)
      | (refine ⟨_, had, ?_⟩)
      | (refine ⟨_, hld, ?_⟩)
      | (refine ⟨_, hadk, ?_⟩)
      | (refine ⟨_, hldk, ?_⟩)
      | (refine ⟨_, fun tm ha => step1_boolNeq un4 rfl (ev_tmp ha rfl) (ev_tmp ha rfl), ?_⟩)
      | fail
    refine ⟨(k + 1), (by repeat' first | exact trivial | refine ⟨rfl, ?_⟩ | refine ⟨slot_int (by (try simp only [Int.toNat_natCast]); omega), ?_⟩), (by (try dsimp only); omega), ?_⟩
    exact ⟨by omega, rfl⟩
  · rw [if_pos rfl] at hcs
    repeat' first
      | refine CO.cons rfl ?_
      | refine CO.nil ?_
      | refine CV.seq ?_
      | refine CV.region callees ?_
      | refine CV.cond ?_
      | refine CV.block ?_
      | refine CV.skip ?_
      | refine CV.draw callees (by decide +kernel) ?_
      | refine CH.cons rfl ?_
      | refine CH.consG rfl ?_
      | refine ⟨(⟨by omega, by omega⟩ : inI64 _), ?_⟩
      | (refine ⟨_, fS foT2 (by decide), ?_⟩)
      | (refine ⟨_, cell_load agBB hg5 rfl, ?_⟩)
      | (refine ⟨_, had, ?_⟩)
      | (refine ⟨_, hld, ?_⟩)
      | (refine ⟨_, hadk, ?_⟩)
      | (refine ⟨_, hldk, ?_⟩)
      | (refine ⟨fun _ => ?_, fun _ => ?_⟩ <;> first | (exfalso; omega) | skip)
      | fail
    refine (has_spec (t := (k : Int) - 1) (by omega) hhr (by omega)).mono ?_
    rw [hsame]
    rintro r I6 ⟨rfl, rfl⟩
    repeat' first
      | refine CO.cons rfl ?_
      | refine CO.nil ?_
      | refine CV.region callees ?_
      | refine CV.cond ?_
      | refine CV.skip ?_
      | refine CH.cons rfl ?_
      | refine CH.nil ?_
      | refine CH.consG rfl ?_
      | refine ⟨(rfl : plain _ = true), ?_⟩
      | refine ⟨(⟨by omega, by omega⟩ : inI64 _), ?_⟩
      | (refine ⟨_, fS foT2 (by decide), ?_⟩)
      | (refine ⟨_, cell_load agBB hg5 rfl, ?_⟩)
      | (refine ⟨_, had, ?_⟩)
      | (refine ⟨_, hld, ?_⟩)
      | (refine ⟨_, hadk, ?_⟩)
      | (refine ⟨_, hldk, ?_⟩)
      | (refine ⟨_, fun tm ha => step1_boolNeq un4 rfl (ev_tmp ha rfl) (ev_tmp ha rfl), ?_⟩)
      | fail
    refine ⟨(k + 1), (by repeat' first | exact trivial | refine ⟨rfl, ?_⟩ | refine ⟨slot_int (by (try simp only [Int.toNat_natCast]); omega), ?_⟩), (by (try dsimp only); omega), ?_⟩
    exact ⟨by omega, rfl⟩
end Go.Proofs.Ytijimplcjaeneaa

