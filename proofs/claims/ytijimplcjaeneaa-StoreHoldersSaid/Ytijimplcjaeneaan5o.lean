
/- StoreHolders. -/
import Derived.Test.Ytijimplcjaeneaan2o
import Derived.Test.Ytijimplcjaeneaan4o
import Derived.Test.Ytijimplcjaeneaam4o
set_option linter.unusedVariables false
set_option linter.unusedSimpArgs false
namespace Go.Proofs.Ytijimplcjaeneaa
open Go.AI
theorem same_ch {mk lo hh : Int} {v : Value} (hv : sameFix v v = true) (ov : ∃ a n c, v = .slice a n c) : sameFix (Chv mk lo hh v) (Chv mk lo hh v) = true := by
  obtain ⟨a, n, c, rfl⟩ := ov
  have hi : ∀ z : Int, sameFix1 (VI z) (VI z) = true := fun z => by simp [sameFix1]
  simp only [sameFix] at hv
  simp only [sameFix, sameFixL, hi, hv, Bool.and_self]
theorem bu3C {H : Heap} {m1 a1 b1 m2 a2 b2 : Int} {x1 x2 : Option Addr} {n1 c1 n2 c2 : Nat} : abuildSlice Try.prog H 37 3 [(0, Chv m1 a1 b1 (.slice x1 n1 c1)), (1, Chv m2 a2 b2 (.slice x2 n2 c2)), (2, Chv m2 a2 b2 (.slice x2 n2 c2))] =
    some (.slice (some ⟨H.n, 0, none⟩) 3 0, H.new (.cells [VI m1, VI a1, VI b1, .slice x1 n1 c1, VI m2, VI a2, VI b2, .slice x2 n2 c2, VI m2, VI a2, VI b2, .slice x2 n2 c2] 26 2), H.n) := by kernel_rfl
theorem bu3N {H : Heap} {x y z : Int} : abuildSlice Try.prog H 29 3 [(0, VI x), (1, VI y), (2, VI z)] = some (.slice (some ⟨H.n, 0, none⟩) 3 0, H.new (.cells [VI x, VI y, VI z] 3 2), H.n) := by kernel_rfl
theorem bu3Lk {H : Heap} {x y z : Lk} : abuildSlice Try.prog H 24 3 [(0, Lkv x), (1, Lkv y), (2, Lkv z)] = some (.slice (some ⟨H.n, 0, none⟩) 3 0, H.new (.cells (Lkl x ++ Lkl y ++ Lkl z) 28 2), H.n) := by kernel_rfl
set_option maxHeartbeats 32000000 in
set_option maxRecDepth 100000 in
theorem holders_law {sv0 v : Value} {H : Heap} {mk0 lo0 hh0 o d : Int} {ls0 : List Lk} {p : Lk} {nums : List Int} (hr : RowS 4 H sv0 (ls0.map Lkl)) (hl : ls0.length ≤ 9223372036854775807) (hv : Ints H v nums) (hx : nums.length ≤ 9223372036854775807) :
    CallB Try.prog H.n 4 [Chv mk0 lo0 hh0 sv0, VI o, VI d, Lkv p, v] H (fun r _ => r = .bool true) := by
  have hn : H.n ≤ H.n := Nat.le_refl _
  refine CV.enter callees false rfl Try.func4 rfl (by kernel_rfl) (Nat.le_of_ble_eq_true rfl) hn ?_
  repeat' first
    | refine CO.cons rfl ?_
    | refine CV.seq ?_
    | refine CV.region callees ?_
    | fail
  refine ⟨(by simp only [notTuple]), ?_⟩
  rw [boxCh hr.cells.1]
  generalize hs0 : Heap.new H _ = H0
  have hg0 := new_get hs0
  have k0 := new_keep hs0
  have n0 := new_n hs0
  obtain ⟨b0, hbn0⟩ : ∃ b, Heap.n H = b := ⟨_, rfl⟩
  rw [hbn0] at hg0 n0 ⊢
  repeat' first
    | refine CO.cons rfl ?_
    | fail
  refine ⟨(by simp only [notTuple]), ?_⟩
  rw [boxLk]
  generalize hs1 : Heap.new H0 _ = H1
  have hg1 := new_get hs1
  have k1 := new_keep hs1
  have n1 := new_n hs1
  obtain ⟨b1, hbn1⟩ : ∃ b, Heap.n H0 = b := ⟨_, rfl⟩
  rw [hbn1] at hg1 n1 ⊢
  have k01 := k0.trans k1
  have hr1 := hr.keep k01
  have hv1 : Ints H1 v nums := Row.keep hv k01
  have hc1 := (k1.2 b0 (by omega)).trans hg0
  repeat' first
    | refine CO.cons rfl ?_
    | refine CO.nil ?_
    | refine CV.seq ?_
    | refine CV.region callees ?_
    | (refine ⟨_, ldCh hc1, ?_⟩)
    | fail
  refine (many_spec (by omega) hr1).mono ?_
  rintro r H2 ⟨rfl | ⟨rfl, hl20⟩, k2⟩
  · have l2 := k2.1
    repeat' first
      | refine CO.cons rfl ?_
      | refine CO.nil ?_
      | refine CV.seq ?_
      | refine CV.region callees ?_
      | refine CV.cond ?_
      | fail
    refine (awake_spec (by omega)).mono ?_
    rintro r I5 ⟨rfl, j5⟩
    repeat' first
      | refine CO.cons rfl ?_
      | refine CO.nil ?_
      | refine CV.ret ?_
      | fail
    exact ⟨rfl, rfl⟩
  have l2 := k2.1
  have hv2 : Ints H2 v nums := Row.keep hv1 k2
  repeat' first
    | refine CO.cons rfl ?_
    | refine CO.nil ?_
    | refine CV.seq ?_
    | refine CV.region callees ?_
    | refine CV.cond ?_
    | refine CV.skip ?_
    | fail
  refine (boxOf_spec (by omega) hv2 hx).mono ?_
  rintro r H3 ⟨⟨b, rfl, hb, hbox⟩, k3⟩
  have l3 := k3.1
  have hbn := hbox.1
  repeat' first
    | refine CO.cons rfl ?_
    | refine CO.nil ?_
    | refine CV.seq ?_
    | refine CV.region callees ?_
    | fail
  refine (chainOf_spec (most := 6) (st := 6) (wd := 4) (by omega) (by omega) hbox (by omega) (by omega) (by omega) (by omega)).mono ?_
  rintro r H4 ⟨⟨mk, lo, hh, sv, ls, rfl, hs, hcm⟩, hb4, x4⟩
  have l4 := x4.1
  have hls7 := hcm.n
  repeat' first
    | refine CO.cons rfl ?_
    | (refine ⟨_, _, alCh, ?_⟩)
    | fail
  generalize hs5 : Heap.new H4 _ = H5
  have hg5 := new_get hs5
  have k5 := new_keep hs5
  have n5 := new_n hs5
  obtain ⟨b5, hbn5⟩ : ∃ b, Heap.n H4 = b := ⟨_, rfl⟩
  rw [hbn5] at hg5 n5 ⊢
  repeat' first
    | fail
  refine ⟨_, _, stCh hg5 (OwnS.oneC hs), by omega, ?_⟩
  generalize hs6 : Heap.set H5 b5 _ = H6
  have hg6 : H6.get b5 = some (.cells (Chl mk lo hh sv) 26 1) := set_get hs6
  have n6 := set_n hs6
  have o6 := set_old hs6
  have k46 : Keep H4 H6 := keep_put k5 (by omega) o6 n6
  have l6 := k46.1
  have hb6 := hb4.keep k46
  have hb6n := hb6.1
  repeat' first
    | refine CO.cons rfl ?_
    | refine CO.nil ?_
    | refine CV.seq ?_
    | refine CV.region callees ?_
    | fail
  refine (up_spec (by omega) (by omega) hb6 (by omega)).mono ?_
  rintro r H7 ⟨⟨y, rfl, y0, y1⟩, hb7, x7⟩
  have l7 := x7.1
  repeat' first
    | refine CO.cons rfl ?_
    | refine CO.nil ?_
    | refine CV.seq ?_
    | refine CV.region callees ?_
    | fail
  refine (up_spec (by omega) (by omega) hb7 (by omega)).mono ?_
  rintro r H8 ⟨⟨f1, rfl, f10, f11⟩, hb8, x8⟩
  have l8 := x8.1
  repeat' first
    | refine CO.cons rfl ?_
    | fail
  refine (up_spec (by omega) (by omega) hb8 (by omega)).mono ?_
  rintro r H9 ⟨⟨f2, rfl, f20, f21⟩, hb9, x9⟩
  have l9 := x9.1
  repeat' first
    | refine CO.cons rfl ?_
    | fail
  refine (up_spec (by omega) (by omega) hb9 (by omega)).mono ?_
  rintro r HA ⟨⟨f3, rfl, f30, f31⟩, hbA, xA⟩
  have lA := xA.1
  repeat' first
    | refine CO.cons rfl ?_
    | refine ⟨(⟨by omega, by omega⟩ : inI64 _), ?_⟩
    | (refine ⟨_, buSp, ?_⟩)
    | (refine ⟨_, buLk, ?_⟩)
    | (refine ⟨_, _, alLk, ?_⟩)
    | fail
  generalize hse : Heap.new HA _ = He
  have hge := new_get hse
  have ke := new_keep hse
  have ne := new_n hse
  obtain ⟨be, hbne⟩ : ∃ b, Heap.n HA = b := ⟨_, rfl⟩
  rw [hbne] at hge ne ⊢
  repeat' first
    | fail
  refine ⟨_, _, stLk hge, by omega, ?_⟩
  generalize hsf : Heap.set He be _ = Hf
  have hgf : Hf.get be = some (.cells (Lkl ⟨f1, f2, y, y + f3⟩) 28 1) := set_get hsf
  have nf := set_n hsf
  have of := set_old hsf
  have kAf : Keep HA Hf := keep_put ke (by omega) of nf
  have lf := kAf.1
  have hbf := hbA.keep kAf
  have hbfn := hbf.1
  have x6A : KeepX b H6 HA := ((x7.trans x8).trans x9).trans xA
  have hsf : OwnLk Hf sv ls H3.n := OwnS.keep (OwnS.boxed (OwnS.keep hs k46) x6A hb6) kAf
  have x3f : KeepX b H3 Hf := ((x4.trans (k46.butX b)).trans x6A).trans (kAf.butX b)
  have hcf := (x3f.2 b0 (by omega) (by omega)).trans ((k3.2 b0 (by omega)).trans ((k2.2 b0 (by omega)).trans hc1))
  have hpf := (x3f.2 b1 (by omega) (by omega)).trans ((k3.2 b1 (by omega)).trans ((k2.2 b1 (by omega)).trans hg1))
  have hg5f := (kAf.2 b5 (by omega)).trans ((x6A.2 b5 (by omega) (by omega)).trans hg6)
  have hrf : RowS 4 Hf sv0 (ls0.map Lkl) := by obtain ⟨_, w, hw⟩ := hbox; exact ((hr1.keep k2).keep k3).keepX x3f hw
  have hsm : sameFix (Chv mk lo hh sv) (Chv mk lo hh sv) = true := same_ch (OwnS.same hsf) (rowS_sl (OwnS.row hsf))
  clear hb4 hb7 hb8 hb9 hbA hge x4 x7 x8 x9 xA hs
  repeat' first
    | refine CO.nil ?_
    | refine CV.seq ?_
    | refine CR.cons (es := []) ?_
    | refine CV.mX callees (by decide +kernel) [(0, []), (1, []), (2, []), (4, []), (5, []), (7, []), (9, []), (10, []), (11, []), (13, []), (14, []), (15, []), (6, [15, 14, 13, 2, 1, 0]), (3, [15, 14, 13]), (17, [15, 14, 13]), (8, [15, 14, 13]), (18, [15, 14, 13]), (12, [15, 14, 13]), (19, [15, 14, 13]), (16, []), (20, [])] (by kernel_rfl) ?_
    | (refine ⟨_, ldCh hcf, ?_⟩)
    | (refine ⟨_, ldCh hg5f, ?_⟩)
    | (refine ⟨_, ldLk hpf, ?_⟩)
    | (refine ⟨_, ldLk hgf, ?_⟩)
    | fail
  refine CR.callL b (by omega) ?_
  refine (up_spec (Nat.le_refl _) (by omega) hbf (by omega)).mono ?_
  rintro r HB ⟨⟨x, rfl, hx0, hx1⟩, hbB, xB⟩
  have lB := xB.1
  have hg5B := (xB.2 b5 (by omega) (by omega)).trans hg5f
  have hgB := (xB.2 be (by omega) (by omega)).trans hgf
  have hpB := (xB.2 b1 (by omega) (by omega)).trans hpf
  have hcB := (xB.2 b0 (by omega) (by omega)).trans hcf
  repeat' first
    | fail
  refine .inr ⟨by omega, _, ldLk hpf, ?_⟩
  refine .inl ⟨_, ldLk hgB, rfl, same_lk, ?_⟩
  refine .inr ⟨by omega, _, ldLk hpf, ?_⟩
  refine .inl ⟨_, ldCh hg5B, rfl, hsm, ?_⟩
  refine .inl ⟨_, ldCh hg5B, rfl, hsm, ?_⟩
  refine .inr ⟨by omega, _, ldCh hcf, ?_⟩
  have hrB : RowS 4 HB sv0 (ls0.map Lkl) := by obtain ⟨_, w, hw⟩ := hbf; exact hrf.keepX xB hw
  have hsB : RowS 4 HB sv (ls.map Lkl) := OwnS.row (OwnS.boxed hsf xB hbf)
  have hbu : ∀ X : Heap, abuildSlice Try.prog X 37 3 [(0, Chv mk0 lo0 hh0 sv0), (1, Chv mk lo hh sv), (2, Chv mk lo hh sv)] = some (.slice (some ⟨X.n, 0, none⟩) 3 0, X.new (.cells [VI mk0, VI lo0, VI hh0, sv0, VI mk, VI lo, VI hh, sv, VI mk, VI lo, VI hh, sv] 26 2), X.n) := fun X => by
    obtain ⟨xs0, ns0, cs0, rfl⟩ := rowS_sl hrB
    obtain ⟨xs1, ns1, cs1, rfl⟩ := rowS_sl hsB
    exact bu3C
  refine CR.opL HB.n (by omega) (Nat.le_refl _) ?_
  refine ⟨_, _, hbu _, ?_⟩
  refine .inr ⟨by omega, _, ldLk hpB, ?_⟩
  refine .inr ⟨by omega, _, ldLk hgB, ?_⟩
  refine .inr ⟨by omega, _, ldLk hpB, ?_⟩
  generalize hsC : Heap.new HB _ = HC
  have kC := new_keep hsC
  have lC := kC.1
  have hpC := (kC.2 b1 (by omega)).trans hpB
  have hgC := (kC.2 be (by omega)).trans hgB
  refine CR.opL HB.n (by omega) (by omega) ?_
  first | refine ⟨rfl, ?_⟩ | refine ⟨(rfl : plain _ = true), ?_⟩ | skip
  refine .inr ⟨by omega, _, ldLk hpC, ?_⟩
  refine .inr ⟨by omega, _, ldLk hgC, ?_⟩
  refine .inr ⟨by omega, _, ldLk hpC, ?_⟩
  refine CR.opL HB.n (by omega) (by omega) ?_
  refine ⟨_, _, bu3N, ?_⟩
  refine .inr ⟨by omega, _, ldLk hpC, ?_⟩
  refine .inr ⟨by omega, _, ldLk hgC, ?_⟩
  refine .inr ⟨by omega, _, ldLk hpC, ?_⟩
  generalize hsD : Heap.new HC _ = HD
  have kD := new_keep hsD
  have lD := kD.1
  have hND : Ints HD (.slice (some ⟨HC.n, 0, none⟩) 3 0) [o, x, o] := by rw [← hsD]; exact new_row rfl
  have hpD := (kD.2 b1 (by omega)).trans hpC
  have hgD := (kD.2 be (by omega)).trans hgC
  refine CR.opL HB.n (by omega) (by omega) ?_
  first | refine ⟨rfl, ?_⟩ | refine ⟨(rfl : plain _ = true), ?_⟩ | skip
  refine .inr ⟨by omega, _, ldLk hpD, ?_⟩
  refine .inr ⟨by omega, _, ldLk hgD, ?_⟩
  refine .inr ⟨by omega, _, ldLk hpD, ?_⟩
  refine CR.opL HB.n (by omega) (by omega) ?_
  refine ⟨_, _, bu3N, ?_⟩
  refine .inr ⟨by omega, _, ldLk hpD, ?_⟩
  refine .inr ⟨by omega, _, ldLk hgD, ?_⟩
  refine .inr ⟨by omega, _, ldLk hpD, ?_⟩
  generalize hsE : Heap.new HD _ = HE
  have kE := new_keep hsE
  have lE := kE.1
  have hDE : Ints HE (.slice (some ⟨HD.n, 0, none⟩) 3 0) [d, y, d] := by rw [← hsE]; exact new_row rfl
  have hpE := (kE.2 b1 (by omega)).trans hpD
  have hgE := (kE.2 be (by omega)).trans hgD
  refine CR.opL HB.n (by omega) (by omega) ?_
  first | refine ⟨rfl, ?_⟩ | refine ⟨(rfl : plain _ = true), ?_⟩ | skip
  refine .inr ⟨by omega, _, ldLk hpE, ?_⟩
  refine .inr ⟨by omega, _, ldLk hgE, ?_⟩
  refine .inr ⟨by omega, _, ldLk hpE, ?_⟩
  repeat' first
    | refine CO.cons rfl ?_
    | refine CO.nil ?_
    | refine CV.seq ?_
    | refine CV.region callees ?_
    | refine CV.block ?_
    | refine CR.cons (es := []) ?_
    | refine CR.nil ?_
    | (refine ⟨_, _, bu3Lk, ?_⟩)
    | fail
  generalize hsF : Heap.new HE _ = HF
  have kF := new_keep hsF
  have lF := kF.1
  have hrow : ∀ {t : TypeId} {X Y : Heap} {rs : List (List Value)}, (∀ r ∈ rs, r.length = 4) → rs.length = 3 → Heap.new X (.cells rs.flatten t 2) = Y → RowS 4 Y (.slice (some ⟨X.n, 0, none⟩) 3 0) rs := fun {t X Y rs} h4 h3 hY => by
    refine ⟨h4, .inr (.inr ⟨X.n, 0, 0, _, _, 2, by rw [h3], by have := new_n hY; omega, new_get hY, by decide, by have := flat_len h4; omega, ?_⟩)⟩
    intro j qq r w hj hq
    rw [Nat.zero_add]
    exact flat_at h4 hj hq
  have hSC : RowS 4 HC (.slice (some ⟨HB.n, 0, none⟩) 3 0) [Chl mk0 lo0 hh0 sv0, Chl mk lo hh sv, Chl mk lo hh sv] := hrow (by simp) rfl hsC
  have hLF : RowS 4 HF (.slice (some ⟨HE.n, 0, none⟩) 3 0) ([p, ⟨f1, f2, y, y + f3⟩, p].map Lkl) := hrow (by simp) rfl hsF
  generalize Value.slice (some ⟨HB.n, 0, none⟩) 3 0 = SS at hSC ⊢
  generalize Value.slice (some ⟨HC.n, 0, none⟩) 3 0 = NN at hND ⊢
  generalize Value.slice (some ⟨HD.n, 0, none⟩) 3 0 = DD at hDE ⊢
  generalize Value.slice (some ⟨HE.n, 0, none⟩) 3 0 = LL at hLF ⊢
  have kDF := (kE.trans kF)
  have kCF := (kD.trans kE).trans kF
  have kBF := kC.trans kCF
  have hSF := hSC.keep kCF
  have hNF : Ints HF NN [o, x, o] := Row.keep hND kDF
  have hDF : Ints HF DD [d, y, d] := Row.keep hDE kF
  have hall : ∀ i : Nat, i < 3 → ∃ (mk' lo' hh' : Int) (s' : Value) (l' : List Lk) (o' d' : Int) (p' : Lk), ([Chl mk0 lo0 hh0 sv0, Chl mk lo hh sv, Chl mk lo hh sv] : List (List Value))[i]? = some (Chl mk' lo' hh' s') ∧ RowS 4 HF s' (l'.map Lkl) ∧ l'.length ≤ 20 ∧ ([o, x, o] : List Int)[i]! = o' ∧ ([d, y, d] : List Int)[i]! = d' ∧ ([p, ⟨f1, f2, y, y + f3⟩, p] : List Lk)[i]! = p' := fun i hi => by
    rcases (by omega : i = 0 ∨ i = 1 ∨ i = 2) with rfl | rfl | rfl
    · exact ⟨mk0, lo0, hh0, sv0, ls0, _, _, _, rfl, hrB.keep kBF, hl20, rfl, rfl, rfl⟩
    · exact ⟨mk, lo, hh, sv, ls, _, _, _, rfl, hsB.keep kBF, by omega, rfl, rfl, rfl⟩
    · exact ⟨mk, lo, hh, sv, ls, _, _, _, rfl, hsB.keep kBF, by omega, rfl, rfl, rfl⟩
  repeat' first
    | fail
  refine CV.loopc ?_
  refine WCv.rounds callees false (α := Nat) (fun i => [(15, SS), (16, NN), (17, DD), (18, LL), (19, VI i)]) (fun i Hz => i ≤ 3 ∧ Keep HF Hz) (fun i => 3 - i) (0) (by repeat' first | exact trivial | refine ⟨rfl, ?_⟩ | refine ⟨slot_int (by (try simp only [Int.toNat_natCast]); omega), ?_⟩) ?_ ?_
  · exact ⟨by omega, Keep.refl _⟩
  rintro i Hx ⟨hi, kx⟩ hBx
  have lx := kx.1
  have hSx := hSF.keep kx
  have hlenS : alen Try.prog Hx 37 SS = some (.int .i64 3) := hSx.alen unCs
  by_cases hi2 : i < 3
  · obtain ⟨mk', lo', hh', s', l', o', d', p', e1, f1', f2', e3, e4, e5⟩ := hall i hi2
    have hNx : Ints Hx NN [o, x, o] := Row.keep hNF kx
    have hDx : Ints Hx DD [d, y, d] := Row.keep hDF kx
    have aS : aindexAddr Try.prog 37 SS (VI i) = some (elemS SS 4 i) := hSx.addr unCs szCh (by omega) (by show (i : Int) < (3 : Nat); omega)
    have aN : aindexAddr Try.prog 29 NN (VI i) = some (elemAt NN i) := ints_addr hNx (by omega) (by show (i : Int) < (3 : Nat); omega)
    have aD : aindexAddr Try.prog 29 DD (VI i) = some (elemAt DD i) := ints_addr hDx (by omega) (by show (i : Int) < (3 : Nat); omega)
    have aL : aindexAddr Try.prog 24 LL (VI i) = some (elemS LL 4 i) := ls_addr (hLF.keep kx) (by omega) (by show (i : Int) < (3 : Nat); omega)
    have lS : ∀ X, Keep HF X → aload Try.prog 26 X (elemS SS 4 i) = some (Chv mk' lo' hh' s') := fun X k => (hSF.keep k).load agCh szCh e1
    have lN : ∀ X, Keep HF X → aload Try.prog 3 X (elemAt NN i) = some (VI o') := fun X k => by
      have h : Ints X NN [o, x, o] := Row.keep hNF k
      have h2 : aload Try.prog 3 X (elemAt NN i) = some (VI ([o, x, o] : List Int)[i]!) := ints_load h (i := (i : Int)) (by omega) (by show (i : Int) < (3 : Nat); omega)
      rwa [e3] at h2
    have lD' : ∀ X, Keep HF X → aload Try.prog 3 X (elemAt DD i) = some (VI d') := fun X k => by
      have h : Ints X DD [d, y, d] := Row.keep hDF k
      have h2 : aload Try.prog 3 X (elemAt DD i) = some (VI ([d, y, d] : List Int)[i]!) := ints_load h (i := (i : Int)) (by omega) (by show (i : Int) < (3 : Nat); omega)
      rwa [e4] at h2
    have lL : ∀ X, Keep HF X → aload Try.prog 28 X (elemS LL 4 i) = some (Lkv p') := fun X k => by
      have h2 := ls_load (hLF.keep k) (j := i) (by show i < 3; omega)
      rwa [e5] at h2
    repeat' first
      | refine CO.cons rfl ?_
      | refine CO.nil ?_
      | refine CV.seq ?_
      | refine CV.region callees ?_
      | refine CV.cond ?_
      | refine CV.block ?_
      | refine CV.skip ?_
      | (refine ⟨_, hlenS, ?_⟩)
      | (refine ⟨_, aS, ?_⟩)
      | (refine ⟨_, lS _ kx, ?_⟩)
      | (refine ⟨fun _ => ?_, fun _ => ?_⟩ <;> first | (exfalso; omega) | skip)
      | fail
    refine (ownChain_spec (by omega) (f1'.keep kx) (by omega)).mono ?_
    rintro r I1 ⟨⟨q, rfl, ho⟩, i1⟩
    have li1 := i1.1
    repeat' first
      | refine CO.cons rfl ?_
      | (refine ⟨_, _, alCh, ?_⟩)
      | fail
    generalize hsm : Heap.new I1 _ = Hm
    have hgm := new_get hsm
    have km := new_keep hsm
    have nm := new_n hsm
    obtain ⟨bm, hbnm⟩ : ∃ b, Heap.n I1 = b := ⟨_, rfl⟩
    rw [hbnm] at hgm nm ⊢
    have hom := OwnS.keep ho km
    repeat' first
      | fail
    refine ⟨_, _, stCh hgm (OwnS.oneC hom), by omega, ?_⟩
    generalize hsw : Heap.set Hm bm _ = Hw
    have hgw : Hw.get bm = some (.cells (Chl mk' lo' hh' q) 26 1) := set_get hsw
    have nw := set_n hsw
    have ow := set_old hsw
    have kmw : Keep I1 Hw := keep_put km (by omega) ow nw
    have kw : Keep HF Hw := (kx.trans i1).trans kmw
    have lw := kw.1
    have g1 : RowS 4 Hw q (l'.map Lkl) := (OwnS.row ho).keep kmw
    clear ho hom hgm
    repeat' first
      | refine CO.cons rfl ?_
      | refine CO.nil ?_
      | refine CV.seq ?_
      | refine CV.draw callees (by decide +kernel) ?_
      | refine CH.cons rfl ?_
      | refine CH.nil ?_
      | refine ⟨_, ints_addr (by assumption) (by omega) (by omega), ?_⟩
      | (refine ⟨_, ldCh hgw, ?_⟩)
      | (refine ⟨_, lD' _ kw, ?_⟩)
      | fail
    refine (holders_spec (by omega) g1).mono ?_
    rintro r J1 ⟨⟨q1, rfl, hq1⟩, j1⟩
    have lj1 := j1.1
    have v1 := kw.trans j1
    repeat' first
      | refine CO.cons rfl ?_
      | refine CO.nil ?_
      | refine CV.seq ?_
      | refine CV.draw callees (by decide +kernel) ?_
      | refine CH.cons rfl ?_
      | refine CH.nil ?_
      | refine ⟨_, ints_addr (by assumption) (by omega) (by omega), ?_⟩
      | (refine ⟨_, aS, ?_⟩)
      | (refine ⟨_, lS _ v1, ?_⟩)
      | (refine ⟨_, lD' _ v1, ?_⟩)
      | fail
    refine (holdersR_spec (by omega) (f1'.keep v1)).mono ?_
    rintro r J2 ⟨⟨q2, rfl, hq2⟩, j2⟩
    have lj2 := j2.1
    have v2 := v1.trans j2
    have j12 := j1.trans j2
    have hS2 := (j12.2 bm (by omega)).trans hgw
    repeat' first
      | refine CO.cons rfl ?_
      | refine CO.nil ?_
      | refine CV.seq ?_
      | refine CV.draw callees (by decide +kernel) ?_
      | refine CH.cons rfl ?_
      | refine CH.nil ?_
      | refine ⟨_, ints_addr (by assumption) (by omega) (by omega), ?_⟩
      | (refine ⟨_, ldCh hS2, ?_⟩)
      | (refine ⟨_, lN _ v2, ?_⟩)
      | (refine ⟨_, lD' _ v2, ?_⟩)
      | fail
    refine (owned_spec (by omega) (g1.keep j12)).mono ?_
    rintro r J3 ⟨rfl, j3⟩
    have lj3 := j3.1
    have v3 := v2.trans j3
    repeat' first
      | refine CO.cons rfl ?_
      | refine CO.nil ?_
      | refine CV.seq ?_
      | refine CV.draw callees (by decide +kernel) ?_
      | refine CH.cons rfl ?_
      | refine CH.nil ?_
      | refine ⟨_, ints_addr (by assumption) (by omega) (by omega), ?_⟩
      | (refine ⟨_, aS, ?_⟩)
      | (refine ⟨_, lS _ v3, ?_⟩)
      | (refine ⟨_, lN _ v3, ?_⟩)
      | (refine ⟨_, lD' _ v3, ?_⟩)
      | fail
    refine (ownedR_spec (by omega) (f1'.keep v3)).mono ?_
    rintro r J4 ⟨rfl, j4⟩
    have lj4 := j4.1
    have v4 := v3.trans j4
    have j14 := (j12.trans j3).trans j4
    have hS4 := (j14.2 bm (by omega)).trans hgw
    repeat' first
      | refine CO.nil ?_
      | refine CV.seq ?_
      | refine CH.cons rfl ?_
      | refine CH.nil ?_
      | refine CR.cons (es := []) ?_
      | refine CV.al callees (by decide +kernel) 9 [(0, []), (1, []), (2, []), (3, []), (4, []), (5, []), (6, []), (7, []), (8, []), (9, []), (10, []), (11, [])] (by kernel_rfl) rfl alCh ?_
      | (refine ⟨_, ldCh hS4, ?_⟩)
      | (refine ⟨_, aL, ?_⟩)
      | (refine ⟨_, lL _ v4, ?_⟩)
      | fail
    refine (addC_spec (by omega) (g1.keep j14) (by omega)).mono ?_
    rintro r J5 ⟨⟨ma, aa, ba, q5, l5, rfl, hq5, he5⟩, j5⟩
    have lj5 := j5.1
    repeat' first
      | refine CR.cons (es := []) ?_
      | (refine ⟨_, _, alCh, ?_⟩)
      | fail
    generalize hsg : Heap.new J5 _ = Hg
    have hgg := new_get hsg
    have kg := new_keep hsg
    have ng := new_n hsg
    obtain ⟨bg, hbng⟩ : ∃ b, Heap.n J5 = b := ⟨_, rfl⟩
    rw [hbng] at hgg ng ⊢
    repeat' first
      | fail
    refine ⟨_, _, stCh hgg (OwnS.oneC hq5), by omega, ?_⟩
    generalize hsh : Heap.set Hg bg _ = Hh
    have hgh : Hh.get bg = some (.cells (Chl ma aa ba q5) 26 1) := set_get hsh
    have nh := set_n hsh
    have oh := set_old hsh
    have k5h : Keep J5 Hh := keep_put kg (by omega) oh nh
    have lh := k5h.1
    have v5 := (v4.trans j5).trans k5h
    repeat' first
      | refine CV.seq ?_
      | refine CR.cons (es := []) ?_
      | refine CR.nil ?_
      | refine CV.al callees (by decide +kernel) 12 [(0, []), (1, []), (2, []), (3, []), (4, []), (5, []), (6, []), (7, []), (8, []), (9, []), (10, []), (11, []), (12, []), (13, []), (14, [])] (by kernel_rfl) rfl alCh ?_
      | (refine ⟨_, aS, ?_⟩)
      | (refine ⟨_, lS _ v5, ?_⟩)
      | (refine ⟨_, aL, ?_⟩)
      | (refine ⟨_, lL _ v5, ?_⟩)
      | fail
    refine (addR_spec (by omega) (f1'.keep v5) (by omega)).mono ?_
    rintro r J6 ⟨⟨mb, ab, bb, q6, l6', rfl, hq6, he6⟩, j6⟩
    have lj6 := j6.1
    repeat' first
      | refine CR.cons (es := []) ?_
      | (refine ⟨_, _, alCh, ?_⟩)
      | fail
    generalize hss : Heap.new J6 _ = Hs
    have hgs := new_get hss
    have ks := new_keep hss
    have ns := new_n hss
    obtain ⟨bs, hbns⟩ : ∃ b, Heap.n J6 = b := ⟨_, rfl⟩
    rw [hbns] at hgs ns ⊢
    repeat' first
      | fail
    refine ⟨_, _, stCh hgs (OwnS.oneC hq6), by omega, ?_⟩
    generalize hst : Heap.set Hs bs _ = Ht
    have hgt : Ht.get bs = some (.cells (Chl mb ab bb q6) 26 1) := set_get hst
    have nt := set_n hst
    have ot := set_old hst
    have k6t : Keep J6 Ht := keep_put ks (by omega) ot nt
    have lt := k6t.1
    have heq := he5.trans he6.symm
    have hadn : (adC mk' lo' hh' l' p').2.2.2.length < 1000000 := by unfold adC; split <;> simp <;> omega
    rw [← he6] at hadn
    simp only [Prod.mk.injEq] at heq
    obtain ⟨rfl, rfl, rfl, rfl⟩ := heq
    have hht : Keep Hh Ht := j6.trans k6t
    have v6 := v5.trans hht
    have hgt5 := (hht.2 bg (by omega)).trans hgh
    have j1t : Keep J2 Ht := (((j3.trans j4).trans j5).trans k5h).trans hht
    have jwt : Keep Hw Ht := j12.trans j1t
    have hSt := (jwt.2 bm (by omega)).trans hgw
    have i1 : Ints Ht q1 (hoX mk' lo' hh' l' d') := ((hq1.keep j2).keep j1t).row
    have i2 : Ints Ht q2 (hoX mk' lo' hh' l' d') := (hq2.keep j1t).row
    have hxl := hoX_len (mk := mk') (lo := lo') (hh := hh') (ls := l') (d := d')
    have r5 : RowS 4 Ht q5 (l5.map Lkl) := (OwnS.row hq5).keep (k5h.trans hht)
    have r6 : RowS 4 Ht q6 (l5.map Lkl) := (OwnS.row hq6).keep k6t
    have g1t := g1.keep jwt
    clear hq1 hq2 hq5 hq6 hgg hgh hgs hS2 hS4 hgw he5 he6
    repeat' first
      | refine CV.seq ?_
      | refine CR.cons (es := []) ?_
      | refine CR.nil ?_
      | refine CV.wideR callees (by decide +kernel) [(0, []), (1, []), (2, []), (3, []), (4, []), (5, []), (6, []), (7, []), (8, []), (9, []), (10, []), (11, []), (12, []), (13, []), (14, []), (15, []), (16, []), (17, []), (18, []), (19, []), (20, []), (21, []), (22, []), (23, []), (24, []), (25, []), (26, []), (27, []), (28, []), (29, []), (30, []), (31, []), (32, []), (33, []), (34, []), (35, []), (36, []), (37, []), (38, [])] (by kernel_rfl) ?_
      | (refine ⟨fun _ => ?_, fun _ => ?_⟩ <;> first | (exfalso; omega) | skip)
      | fail
    refine (eqInts_spec (by omega) i1 i2 (by omega)).mono ?_
    rw [decide_eq_true rfl]
    rintro r K1 ⟨rfl, m1⟩
    have lm1 := m1.1
    have ha1 := (m1.2 bg (by omega)).trans hgt5
    have hb1 := (m1.2 bs (by omega)).trans hgt
    repeat' first
      | refine CR.cons (es := []) ?_
      | (refine ⟨_, ldCh ha1, ?_⟩)
      | (refine ⟨_, ldCh hb1, ?_⟩)
      | fail
    refine (eqChains_spec (by omega) (r5.keep m1) (r6.keep m1) hadn).mono ?_
    rintro r K2 ⟨rfl, m2⟩
    have lm2 := m2.1
    have m12 := m1.trans m2
    have hS6 := (m12.2 bm (by omega)).trans hSt
    have v7 := v6.trans m12
    repeat' first
      | refine CR.cons (es := []) ?_
      | (refine ⟨_, ldCh hS6, ?_⟩)
      | (refine ⟨_, aS, ?_⟩)
      | (refine ⟨_, lS _ v7, ?_⟩)
      | fail
    refine (eqChains_spec (by omega) (g1t.keep m12) (f1'.keep v7) (by omega)).mono ?_
    rintro r K3 ⟨rfl, m3⟩
    repeat' first
      | refine CO.cons rfl ?_
      | refine CO.nil ?_
      | refine CV.region callees ?_
      | refine CV.cond ?_
      | refine CV.skip ?_
      | refine CR.cons ?_
      | refine CR.nil ?_
      | refine ⟨(⟨by omega, by omega⟩ : inI64 _), ?_⟩
      | fail
    refine ⟨(i + 1), (by repeat' first | exact trivial | refine ⟨rfl, ?_⟩ | refine ⟨slot_int (by (try simp only [Int.toNat_natCast]); omega), ?_⟩), (by (try dsimp only); omega), ?_⟩
    exact ⟨by omega, v7.trans m3⟩
  obtain rfl : i = 3 := by omega
  repeat' first
    | refine CO.cons rfl ?_
    | refine CO.nil ?_
    | refine CV.seq ?_
    | refine CV.region callees ?_
    | refine CV.cond ?_
    | refine CV.exit ?_
    | (refine ⟨_, hlenS, ?_⟩)
    | (refine ⟨fun _ => ?_, fun _ => ?_⟩ <;> first | (exfalso; omega) | skip)
    | fail
  refine (awake_spec (by omega)).mono ?_
  rintro r I5 ⟨rfl, j5⟩
  repeat' first
    | refine CO.cons rfl ?_
    | refine CO.nil ?_
    | refine CV.ret ?_
    | fail
  exact ⟨rfl, rfl⟩
end Go.Proofs.Ytijimplcjaeneaa
