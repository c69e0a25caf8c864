
/- Chains made of numbers: the walk. -/
import Derived.Test.Ytijimplcjaeneaah1o
set_option linter.unusedVariables false
set_option linter.unusedSimpArgs false
namespace Go.Proofs.Ytijimplcjaeneaa
open Go.AI
set_option maxHeartbeats 16000000 in
set_option maxRecDepth 100000 in
theorem chainOf_spec [Orc] {B b most st wd : Nat} {H : Heap} (hB : B ≤ b) (hn : B ≤ H.n) (hb : Box b H) (hm : most ≤ 7) (hs1 : 1 ≤ st) (hs : st ≤ 10) (hw : wd ≤ 10) :
    CallB Try.prog B 18 [bp b, VI most, VI st, VI wd] H (fun r H' => (∃ mk lo hi sv ls, r = Chv mk lo hi sv ∧ OwnLk H' sv ls H.n ∧ ChM most mk lo hi ls) ∧ Box b H' ∧ KeepX b H H') := by
  have hbn := hb.1
  refine CV.enter callees false (Orc.hv rfl rfl) Try.func18 rfl (by kernel_rfl) (Nat.le_of_ble_eq_true rfl) hn ?_ (Orc.hw rfl rfl)
  repeat' first
    | refine CO.cons rfl ?_
    | refine CO.nil ?_
    | refine CV.seq ?_
    | refine CV.region callees ?_
    | (refine ⟨_, _, alCh, ?_⟩)
    | fail
  generalize hs0 : Heap.new H _ = H0
  have hg0 := new_get hs0
  have k0 := new_keep hs0
  have n0 := new_n hs0
  obtain ⟨b0, hbn0⟩ : ∃ b, Heap.n H = b := ⟨_, rfl⟩
  rw [hbn0] at hg0 n0 ⊢
  have hb0 := hb.keep k0
  repeat' first
    | fail
  refine (any_spec hB (by omega) hb0 (by omega) (by omega) (by omega)).mono ?_
  rintro r H1 ⟨⟨ow, rfl, ow1, ow2⟩, hb1, x1⟩
  have l1 := x1.1
  repeat' first
    | refine CO.cons rfl ?_
    | refine CO.nil ?_
    | refine CV.seq ?_
    | refine CV.region callees ?_
    | fail
  refine (up_spec hB (by omega) hb1 (by omega)).mono ?_
  rintro r H2 ⟨⟨mk, rfl, mk1, mk2⟩, hb2, x2⟩
  have l2 := x2.1
  repeat' first
    | refine CO.cons rfl ?_
    | (refine ⟨_, buCh, ?_⟩)
    | (refine ⟨_, _, alCh, ?_⟩)
    | fail
  generalize hs3 : Heap.new H2 _ = H3
  have hg3 := new_get hs3
  have k3 := new_keep hs3
  have n3 := new_n hs3
  obtain ⟨b3, hbn3⟩ : ∃ b, Heap.n H2 = b := ⟨_, rfl⟩
  rw [hbn3] at hg3 n3 ⊢
  have hb3 := hb2.keep k3
  have hr3 := (k3.2 b0 (by omega)).trans ((x2.2 b0 (by omega) (by omega)).trans ((x1.2 b0 (by omega) (by omega)).trans hg0))
  repeat' first
    | fail
  refine ⟨_, _, stCh hg3 rfl, by omega, ?_⟩
  generalize hs4 : Heap.set H3 b3 _ = H4
  have hg4 : H4.get b3 = some (.cells (Chl mk 0 0 nilS) 26 1) := set_get hs4
  have n4 := set_n hs4
  have o4 := set_old hs4
  have hr4 := (o4 b0 (by omega)).trans hr3
  have hb4 := hb3.put (by omega) o4 n4
  repeat' first
    | refine CO.cons rfl ?_
    | refine CO.nil ?_
    | refine CV.seq ?_
    | refine CV.region callees ?_
    | refine ⟨(⟨by omega, by omega⟩ : inI64 _), ?_⟩
    | fail
  refine (any_spec hB (by omega) hb4 (by omega) (by omega) (by omega)).mono ?_
  rintro r H5 ⟨⟨d, rfl, d1, d2⟩, hb5, x5⟩
  have l5 := x5.1
  repeat' first
    | refine CO.cons rfl ?_
    | refine CO.nil ?_
    | refine CV.seq ?_
    | refine CV.region callees ?_
    | refine ⟨(⟨by omega, by omega⟩ : inI64 _), ?_⟩
    | fail
  refine (up_spec hB (by omega) hb5 (by omega)).mono ?_
  rintro r H6 ⟨⟨u, rfl, u1, u2⟩, hb6, x6⟩
  have l6 := x6.1
  repeat' first
    | refine CO.cons rfl ?_
    | refine ⟨(⟨by omega, by omega⟩ : inI64 _), ?_⟩
    | fail
  refine (up_spec hB (by omega) hb6 (by omega)).mono ?_
  rintro r H7 ⟨⟨v, rfl, v1, v2⟩, hb7, x7⟩
  have l7 := x7.1
  have x47 := (x5.trans x6).trans x7
  have hg7 := (x47.2 b3 (by omega) (by omega)).trans hg4
  have hr7 := (x47.2 b0 (by omega) (by omega)).trans hr4
  repeat' first
    | refine CO.cons rfl ?_
    | refine ⟨(⟨by omega, by omega⟩ : inI64 _), ?_⟩
    | (refine ⟨_, buSp, ?_⟩)
    | (refine ⟨_, fS foC1 (by decide), ?_⟩)
    | fail
  refine ⟨_, _, stChS hg7, by omega, ?_⟩
  generalize hs8 : Heap.set H7 b3 _ = H8
  have hg8 : H8.get b3 = some (.cells (Chl mk (d - u) (d + v) nilS) 26 1) := set_get hs8
  have n8 := set_n hs8
  have o8 := set_old hs8
  have hr8 := (o8 b0 (by omega)).trans hr7
  have hb8 := hb7.put (by omega) o8 n8
  have x08 : KeepX b H H8 := KeepX.put (((KeepX.put (((k0.butX b).trans (x1.trans x2)).trans (k3.butX b)) (by omega) o4 n4)).trans x47) (by omega) o8 n8
  have l8 := x08.1
  repeat' first
    | refine CO.cons rfl ?_
    | refine CO.nil ?_
    | refine CV.seq ?_
    | refine CV.region callees ?_
    | refine ⟨(⟨by omega, by omega⟩ : inI64 _), ?_⟩
    | (refine ⟨_, fS foC0 (by decide), ?_⟩)
    | (refine ⟨_, cell_load ag3 hg8 rfl, ?_⟩)
    | fail
  refine (up_spec hB (by omega) hb8 (by omega)).mono ?_
  rintro r H9 ⟨⟨m, rfl, m1, m2⟩, hb9, x9⟩
  have l9 := x9.1
  obtain ⟨m, rfl⟩ : ∃ n : Nat, m = (n : Int) := ⟨m.toNat, by omega⟩
  have hg9 := (x9.2 b3 (by omega) (by omega)).trans hg8
  have hr9 := (x9.2 b0 (by omega) (by omega)).trans hr8
  obtain ⟨n9, hn9⟩ : ∃ n, H9.n = n := ⟨_, rfl⟩
  have hb3n : b3 < n9 := by omega
  have hb03 : b0 < b3 := by omega
  have hbb0 : b < b0 := by omega
  have hHb0 : H.n ≤ b0 := by omega
  repeat' first
    | refine CO.cons rfl ?_
    | refine CO.nil ?_
    | refine CV.block ?_
    | fail
  refine CV.loopc ?_
  refine WCv.rounds callees false (α := Nat × Value × List Lk × Int × Int) (fun (i, q, l, h, e) => [(0, bp b), (2, VI st), (3, VI wd), (8, .pointer (some ⟨b0, 0, none⟩)), (9, VI ow), (10, .pointer (some ⟨b3, 0, none⟩)), (11, VI e), (12, VI h), (13, q), (14, VI i)]) (fun (i, q, l, h, e) Hz => i + l.length ≤ most ∧ (0 ≤ h ∧ h < ow) ∧ (d ≤ e ∧ e ≤ d + 10 * l.length) ∧ OwnLk Hz q l n9 ∧ (∀ x ∈ l, LkM x) ∧ PathL mk d l h e ∧ Hz.get b3 = some (.cells (Chl mk (d - u) (d + v) nilS) 26 1) ∧ Hz.get b0 = some (.cells (Chl 0 0 0 nilS) 26 1) ∧ Box b Hz ∧ KeepX b H Hz ∧ n9 ≤ Hz.n) (fun (i, q, l, h, e) => i) (m, nilS, [], mk, d) (by repeat' first | exact trivial | refine ⟨rfl, ?_⟩ | refine ⟨slot_int (by (try simp only [Int.toNat_natCast]); omega), ?_⟩) ?_ ?_
  · exact ⟨by simp; omega, by omega, by simp, ⟨fun r hr => by simp at hr, .inl ⟨rfl, rfl⟩⟩, by simp, ⟨rfl, rfl⟩, hg9, hr9, hb9, x08.trans x9, by omega⟩
  clear hb0 hb1 x1 l1 hb2 x2 l2 hb3 hr3 hb4 hr4 hb5 x5 l5 hb6 x6 l6 hb7 x7 l7 x47 hg7 hr7 hr8 hb8 x08 l8 hb9 x9 l9 hg9 hr9 hg8 hg4 hg3 hg0 k0 k3 n0 n3 n4 n8 o4 o8 hn9
  rintro ⟨i, q, l, h, e⟩ Hx ⟨hi, hh, he, hq, hlm, hpa, hgx, hrx, hbx, xx, lx⟩ hBx
  have hqa : ∀ c, blkOf q = some c → n9 ≤ c := fun c hc => (hq.lt hc).1
  by_cases hi2 : 0 < i
  · repeat' first
      | refine CO.cons rfl ?_
      | refine CO.nil ?_
      | refine CV.seq ?_
      | refine CV.region callees ?_
      | refine CV.cond ?_
      | refine CV.block ?_
      | refine CV.skip ?_
      | refine ⟨(⟨by omega, by omega⟩ : inI64 _), ?_⟩
      | (refine ⟨fun _ => ?_, fun _ => ?_⟩ <;> first | (exfalso; omega) | skip)
      | fail
    refine (any_spec hB (by omega) hbx (by omega) (by omega) (by omega)).mono ?_
    rintro r H2 ⟨⟨s, rfl, s1, s2⟩, hb2, x2⟩
    have l2 := x2.1
    repeat' first
      | refine CO.cons rfl ?_
      | refine ⟨(⟨by omega, by omega⟩ : inI64 _), ?_⟩
      | fail
    refine (fit_spec (by omega) (by omega) (by omega) (by omega) (by omega)).mono ?_
    rintro r H3 ⟨rfl, rfl⟩
    obtain ⟨to, hto⟩ : ∃ t, (if h + s < ow then h + s else h + s - ow) = t := ⟨_, rfl⟩
    have hto1 : 0 ≤ to ∧ to < ow ∧ to ≠ h := by rw [← hto]; split <;> omega
    rw [hto]
    repeat' first
      | refine CO.cons rfl ?_
      | refine CO.nil ?_
      | refine CV.seq ?_
      | refine CV.region callees ?_
      | fail
    refine (any_spec hB (by omega) hb2 (by omega) (by omega) (by omega)).mono ?_
    rintro r H4 ⟨⟨g, rfl, g1, g2⟩, hb4, x4⟩
    have l4 := x4.1
    repeat' first
      | refine CO.cons rfl ?_
      | refine CO.nil ?_
      | refine CV.seq ?_
      | refine CV.region callees ?_
      | refine ⟨(⟨by omega, by omega⟩ : inI64 _), ?_⟩
      | fail
    refine (up_spec hB (by omega) hb4 (by omega)).mono ?_
    rintro r H5 ⟨⟨u', rfl, u1', u2'⟩, hb5, x5⟩
    have l5 := x5.1
    repeat' first
      | refine CO.cons rfl ?_
      | refine ⟨(⟨by omega, by omega⟩ : inI64 _), ?_⟩
      | fail
    refine (up_spec hB (by omega) hb5 (by omega)).mono ?_
    rintro r H6 ⟨⟨v', rfl, v1', v2'⟩, hb6, x6⟩
    have l6 := x6.1
    have xall : KeepX b Hx H6 := ((x2.trans x4).trans x5).trans x6
    have hq6 : OwnLk H6 q l n9 := OwnS.boxed hq xall hbx
    have hb6n := hb6.1
    repeat' first
      | refine CO.cons rfl ?_
      | refine ⟨(⟨by omega, by omega⟩ : inI64 _), ?_⟩
      | (refine ⟨_, buSp, ?_⟩)
      | (refine ⟨_, buLk, ?_⟩)
      | (refine ⟨_, _, lkOne, ?_⟩)
      | fail
    refine lkPush hq6 (by omega) (by omega) (by omega) ?_
    intro q9 H9 hq9 kb9 hf9
    have l9 := kb9.le
    have hii : ((i : Int) - 1) = ((i - 1 : Nat) : Int) := by omega
    repeat' first
      | refine CO.cons rfl ?_
      | refine CO.nil ?_
      | refine CV.region callees ?_
      | refine ⟨(⟨by omega, by omega⟩ : inI64 _), ?_⟩
      | fail
    rw [hii]
    refine ⟨(i - 1, q9, l ++ [⟨h, to, e + g - u', e + g + v'⟩], to, e + g), (by repeat' first | exact trivial | refine ⟨rfl, ?_⟩ | refine ⟨slot_int (by (try simp only [Int.toNat_natCast]); omega), ?_⟩), (by (try dsimp only); omega), ?_⟩
    refine ⟨by simp; omega, by omega, by simp; omega, hq9, fun x hx => ?_, PathL.snoc (x := ⟨h, to, e + g - u', e + g + v'⟩) hpa rfl (by omega) (by show e + g - u' ≤ e + g; omega) (by show e + g ≤ e + g + v'; omega), (kb9.get b3 (by omega) (fun hc => by have := hqa _ hc; omega)).trans ((xall.2 b3 (by omega) (by omega)).trans hgx), (kb9.get b0 (by omega) (fun hc => by have := hqa _ hc; omega)).trans ((xall.2 b0 (by omega) (by omega)).trans hrx), hb6.keepBut kb9 (fun hc => by have := hqa _ hc; omega), kb9.keepX (xx.trans xall) fun c hc => by have := hqa c hc; omega, by omega⟩
    rcases List.mem_append.1 hx with hx | hx
    · exact hlm x hx
    · rw [List.mem_singleton] at hx
      subst hx
      have : l.length ≤ 7 := by omega
      exact ⟨by show 0 ≤ h; omega, by show h ≤ 4; omega, by show 0 ≤ to; omega, by show to ≤ 4; omega, by show h ≠ to; omega, by show 0 ≤ e + g - u'; omega, by show e + g + v' ≤ 200; omega, by show e + g - u' ≤ e + g + v'; omega⟩
  have hq0 := hq.row
  have hlb : l.length ≤ 7 := by omega
  repeat' first
    | refine CO.cons rfl ?_
    | refine CO.nil ?_
    | refine CV.seq ?_
    | refine CV.region callees ?_
    | refine CV.cond ?_
    | refine CV.exit ?_
    | (refine ⟨_, ls_len hq0, ?_⟩)
    | (refine ⟨fun _ => ?_, fun _ => ?_⟩ <;> first | (exfalso; omega) | skip)
    | fail
  refine (order_spec (n := l.length) hB (by omega) hbx (by omega)).mono ?_
  rintro ov HA ⟨⟨xs, hxs, hxl, hov⟩, hbA, xA⟩
  have lA := xA.1
  obtain ⟨nA, hnA⟩ : ∃ n, HA.n = n := ⟨_, rfl⟩
  have hqA : OwnLk HA q l n9 := OwnS.boxed hq xA hbx
  have hgA := (xA.2 b3 (by omega) (by omega)).trans hgx
  have hrA := (xA.2 b0 (by omega) (by omega)).trans hrx
  have hovr := hov.row
  repeat' first
    | refine CO.cons rfl ?_
    | refine CO.nil ?_
    | refine CV.seq ?_
    | refine CV.region callees ?_
    | refine CV.block ?_
    | fail
  refine CV.loopc ?_
  refine WCv.rounds callees false (α := Nat × Value) (fun (j, sv) => [(8, .pointer (some ⟨b0, 0, none⟩)), (10, .pointer (some ⟨b3, 0, none⟩)), (13, q), (16, ov), (17, VI j)]) (fun (j, sv) Hz => j ≤ xs.length ∧ OwnLk Hz sv (shufL l (xs.take j)) nA ∧ RowS 4 Hz q (l.map Lkl) ∧ Ints Hz ov xs ∧ Hz.get b3 = some (.cells (Chl mk (d - u) (d + v) sv) 26 1) ∧ Hz.get b0 = some (.cells (Chl 0 0 0 nilS) 26 1) ∧ Box b Hz ∧ KeepX b H Hz ∧ nA ≤ Hz.n) (fun (j, sv) => xs.length - j) (0, nilS) (by repeat' first | exact trivial | refine ⟨rfl, ?_⟩ | refine ⟨slot_int (by (try simp only [Int.toNat_natCast]); omega), ?_⟩) ?_ ?_
  · exact ⟨by omega, ⟨fun r hr => by simp [shufL] at hr, .inl ⟨rfl, by simp [shufL]⟩⟩, hqA.row, hovr, hgA, hrA, hbA, xx.trans xA, by omega⟩
  have hqlt : ∀ c, blkOf q = some c → c < nA := fun c hc => by have := (hqA.lt hc).2; omega
  have hovlt : ∀ c, blkOf ov = some c → c < nA := fun c hc => by have := (hov.lt hc).2; omega
  clear hq hgx hrx hbx hqA hgA hrA hbA hovr hq0
  rintro ⟨j, sv⟩ Hy ⟨hj, hsv, hqy, hoy, hgy, hry, hby, xy, ly⟩ hBy
  have hsva : ∀ c, blkOf sv = some c → nA ≤ c := fun c hc => (hsv.lt hc).1
  by_cases hj2 : j < xs.length
  · have hjr := hxs.2 j hj2
    have hxj : xs[(j : Int).toNat]! = xs[j]! := rfl
    have hbyn := hby.1
    obtain ⟨y, hy⟩ : ∃ y, xs[j]! = y := ⟨_, rfl⟩
    rw [hy] at hxj hjr
    obtain ⟨p, hp⟩ : ∃ p : Nat, y = (p : Int) := ⟨y.toNat, by omega⟩
    subst hp
    have kN := Keep.new Hy (.cells (Lkl l[p]!) 28 2)
    have hgN : (Hy.new (.cells (Lkl l[p]!) 28 2)).get b3 = some (.cells (Chl mk (d - u) (d + v) sv) 26 1) := by rw [kN.2 b3 (by omega)]; exact hgy
    have hadr : aindexAddr Try.prog 24 q (.int .i64 xs[(j : Int).toNat]!) = some (elemS q 4 p) := by rw [hxj]; exact ls_addr hqy (by omega) (by omega)
    have hld : aload Try.prog 28 Hy (elemS q 4 p) = some (Lkv l[p]!) := ls_load hqy (by omega)
    repeat' first
      | refine CO.cons rfl ?_
      | refine CO.nil ?_
      | refine CV.seq ?_
      | refine CV.region callees ?_
      | refine CV.cond ?_
      | refine CV.block ?_
      | refine CV.skip ?_
      | refine CG.cons rfl ?_
      | refine CG.nil ?_
      | refine ⟨_, ints_len (by assumption), ?_⟩
      | refine ⟨_, ints_addr (by assumption) (by omega) (by omega), ?_⟩
      | refine ⟨_, ints_load (by assumption) (by omega) (by omega), ?_⟩
      | refine CV.ap callees rfl rfl [0, 1, 2, 3, 4, 5, 6, 7, 8, 9] (by kernel_rfl) ?_
      | (refine ⟨_, fS foC2 (by decide), ?_⟩)
      | (refine ⟨_, cell_load agLs hgy rfl, ?_⟩)
      | (refine ⟨_, hadr, ?_⟩)
      | (refine ⟨_, hld, ?_⟩)
      | (refine ⟨_, _, lkOne, ?_⟩)
      | (refine ⟨fun _ => ?_, fun _ => ?_⟩ <;> first | (exfalso; omega) | skip)
      | fail
    refine lkPush (d := l[p]!) hsv (by omega) (by omega) (by rw [shuf_len, List.length_take]; omega) ?_
    intro q9 H9 hq9 kb9 hf9
    have l9 := kb9.le
    have hg9 := (kb9.get b3 (by omega) (fun hc => by have := hsva _ hc; omega)).trans hgy
    have hr9 := (kb9.get b0 (by omega) (fun hc => by have := hsva _ hc; omega)).trans hry
    repeat' first
      | refine CO.cons rfl ?_
      | (refine ⟨_, fS foC2 (by decide), ?_⟩)
      | fail
    refine ⟨_, _, store_row (i := 3) szLs hg9 (by show 3 < 4; decide) (OwnS.oneC hq9), by omega, ?_⟩
    generalize hsB : Heap.set H9 b3 _ = HB
    have hgB : HB.get b3 = some (.cells (Chl mk (d - u) (d + v) q9) 26 1) := set_get hsB
    have nB := set_n hsB
    have oB := set_old hsB
    have kB : KeepX b3 H9 HB := ⟨by omega, fun c hc hcl => oB c hcl⟩
    repeat' first
      | refine CO.cons rfl ?_
      | refine CO.nil ?_
      | refine CV.region callees ?_
      | refine ⟨(⟨by omega, by omega⟩ : inI64 _), ?_⟩
      | fail
    refine ⟨(j + 1, q9), (by repeat' first | exact trivial | refine ⟨rfl, ?_⟩ | refine ⟨slot_int (by (try simp only [Int.toNat_natCast]); omega), ?_⟩), (by (try dsimp only); omega), ?_⟩
    have htk : shufL l (xs.take (j + 1)) = shufL l (xs.take j) ++ [l[p]!] := by
      rw [one_at hj2, hy]
      simp [shufL]
    refine ⟨by omega, ?_, ?_, ?_, hgB, (oB b0 (by omega)).trans hr9, (hby.keepBut kb9 (fun hc => by have := hsva _ hc; omega)).put (by omega) oB nB, KeepX.put (kb9.keepX xy fun c hc => by have := hsva c hc; omega) (by omega) oB nB, by omega⟩
    · rw [htk]; exact OwnS.keepX hq9 kB hg9
    · exact RowS.keepX (rowS_but hqy kb9 fun c hc hc' => by have := hsva _ hc'; have := hqlt _ hc; omega) kB hg9
    · exact Row.keepX (row_but hoy kb9 fun c hc hc' => by have := hsva _ hc'; have := hovlt _ hc; omega) kB hg9
  obtain rfl : j = xs.length := by omega
  rw [List.take_length] at hsv
  have hCM : ChM most mk (d - u) (d + v) (shufL l xs) := chM_of (by omega) (by omega) (by omega) (by omega) (by omega) (by omega) hxs hxl (by omega) hlm hpa
  have hbyn := hby.1
  repeat' first
    | refine CO.cons rfl ?_
    | refine CO.nil ?_
    | refine CV.seq ?_
    | refine CV.region callees ?_
    | refine CV.cond ?_
    | refine CV.exit ?_
    | refine ⟨_, ints_len (by assumption), ?_⟩
    | (refine ⟨_, ldCh hgy, ?_⟩)
    | (refine ⟨fun _ => ?_, fun _ => ?_⟩ <;> first | (exfalso; omega) | skip)
    | fail
  refine ⟨_, _, stCh hry (OwnS.oneC hsv), by omega, ?_⟩
  generalize hs5 : Heap.set Hy b0 _ = H5
  have hg5 : H5.get b0 = some (.cells (Chl mk (d - u) (d + v) sv) 26 1) := set_get hs5
  have n5 := set_n hs5
  have o5 := set_old hs5
  repeat' first
    | refine CO.nil ?_
    | refine CV.ret ?_
    | fail
  have kA : KeepX b0 Hy H5 := ⟨by omega, fun c hc hcl => o5 c hcl⟩
  have hns : (Value.agg #[VI mk, VI (d - u), VI (d + v), sv]) = Chv mk (d - u) (d + v) sv := rfl
  exact ⟨_, ldCh hg5, rfl, ⟨mk, d - u, d + v, sv, _, rfl, OwnS.low (OwnS.keepX hsv kA hry) (by have := xy.1; omega), hCM⟩, hby.put (by omega) o5 n5, KeepX.put xy (by omega) o5 n5⟩
end Go.Proofs.Ytijimplcjaeneaa

