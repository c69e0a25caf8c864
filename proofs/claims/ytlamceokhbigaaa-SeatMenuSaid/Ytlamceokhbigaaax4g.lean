
/- What is enough; menus; whether a guest can eat a dish. -/
import Derived.Test.Ytlamceokhbigaaax3g
set_option linter.unusedVariables false
set_option linter.unusedSimpArgs false
namespace Go.Proofs.Ytlamceokhbigaaa
open Go.AI
/-- How many of some dishes a guest surely can eat. -/
def cntD (g : Gu) (ss : List Di) : Nat := (ss.filter (sureB g)).length
theorem cntD_take {g : Gu} {ss : List Di} {k : Nat} (h : k < ss.length) : cntD g (ss.take (k + 1)) = cntD g (ss.take k) + if sureB g ss[k]! = true then 1 else 0 := by
  unfold cntD
  rw [one_at h, List.filter_append, List.length_append]
  split
  · rename_i e; rw [List.filter_cons_of_pos e]; rfl
  · rename_i e; rw [List.filter_cons_of_neg e]; rfl
theorem cntD_le {g : Gu} {ss : List Di} : cntD g ss ≤ ss.length := List.length_filter_le _ _
theorem cntD_pick {g : Gu} {ds : List Di} {m : List Int} : cntD g (pickD ds m) = cntS g ds m := by
  unfold cntD cntS pickD
  rw [List.filter_map, List.length_map]
  rfl
theorem ra_gu {g : Gu} (h : GuOk g) : RaOk g := ⟨h.ra, h.ra', h.ho, h.ho', h.ne, h.ne', h.ma, h.ma'⟩
def enD (gs : List Gu) (ss : List Di) (need : Int) : Bool := gs.all fun g => decide (need ≤ (cntD g ss : Int))
theorem enD_all {gs : List Gu} {ss : List Di} {need : Int} : enD gs ss need = true ↔ ∀ j, j < gs.length → need ≤ (cntD gs[j]! ss : Int) := by
  unfold enD
  rw [List.all_eq_true]
  constructor
  · intro h j hj
    have := h gs[j]! (by rw [getElem!_pos gs j hj]; exact List.getElem_mem _)
    exact of_decide_eq_true this
  · intro h g hg
    obtain ⟨j, hj, e⟩ := List.getElem_of_mem hg
    have := h j hj
    rw [getElem!_pos gs j hj, e] at this
    exact decide_eq_true this
set_option maxHeartbeats 16000000 in
set_option maxRecDepth 100000 in
theorem isEnough_spec {B : Nat} {H : Heap} {gv sv : Value} {gs : List Gu} {ss : List Di} {need : Int} (hB : B ≤ H.n) (hg : RowS 5 H gv (gs.map Gul)) (hs : RowS 3 H sv (ss.map Dil)) (hl : gs.length ≤ 100) (hsl : ss.length ≤ 100) (hgs : ∀ i, i < gs.length → RaOk gs[i]!) (hok : ∀ i, i < ss.length → DiOk ss[i]!) :
    CallB Try.prog B 104 [gv, sv, VI need] H (fun r H' => r = .bool (enD gs ss need) ∧ Keep H H') := by
  refine CV.enter callees false rfl Try.func104 rfl (by kernel_rfl) (Nat.le_of_ble_eq_true rfl) hB ?_
  repeat' first
    | refine CO.cons rfl ?_
    | refine CO.nil ?_
    | refine CV.seq ?_
    | refine CV.region callees ?_
    | refine CV.block ?_
    | (refine ⟨_, gs_len hg, ?_⟩)
    | fail
  refine CV.loopc ?_
  refine WCv.rounds callees false (α := Nat) (fun i => [(1, sv), (2, VI need), (12, gv), (13, VI gs.length), (14, VI i)]) (fun i Hz => i ≤ gs.length ∧ (∀ j, j < i → need ≤ (cntD gs[j]! ss : Int)) ∧ Keep H Hz) (fun i => gs.length - i) (0) (by repeat' first | exact trivial | refine ⟨rfl, ?_⟩ | refine ⟨slot_int (by (try simp only [Int.toNat_natCast]); omega), ?_⟩) ?_ ?_
  · exact ⟨by omega, fun j hj => by omega, Keep.refl _⟩
  rintro i Hx ⟨hi, hall, kx⟩ hBx
  have lx := kx.1
  by_cases hi2 : i < gs.length
  · have hgx := hg.keep kx
    repeat' first
      | refine CO.cons rfl ?_
      | refine CO.nil ?_
      | refine CV.seq ?_
      | refine CV.region callees ?_
      | refine CV.cond ?_
      | refine CV.block ?_
      | refine CV.skip ?_
      | (refine ⟨_, gs_addr hgx (by omega) (by omega), ?_⟩)
      | (refine ⟨_, gs_load hgx hi2, ?_⟩)
      | (refine ⟨_, _, al68, ?_⟩)
      | (refine ⟨fun _ => ?_, fun _ => ?_⟩ <;> first | (exfalso; omega) | skip)
      | fail
    generalize hs2 : Heap.new Hx _ = H2
    have hg2 := new_get hs2
    have k2 := new_keep hs2
    have n2 := new_n hs2
    obtain ⟨b2, hbn2⟩ : ∃ b, Heap.n Hx = b := ⟨_, rfl⟩
    rw [hbn2] at hg2 n2 ⊢
    repeat' first
      | fail
    refine ⟨_, _, st68 hg2, by omega, ?_⟩
    generalize hs3 : Heap.set H2 b2 _ = H3
    have hg3 : H3.get b2 = some (.cells (Gul gs[i]!) 68 1) := set_get hs3
    have n3 := set_n hs3
    have o3 := set_old hs3
    have k3 : Keep Hx H3 := keep_put k2 (by omega) o3 n3
    have l3 := k3.1
    have hb2n : b2 < H3.n := by omega
    have hs3 := hs.keep (kx.trans k3)
    obtain ⟨g, hgE⟩ : ∃ g, gs[i]! = g := ⟨_, rfl⟩
    have hgra := hgs i hi2
    rw [hgE] at hg3 hgra
    repeat' first
      | refine CO.cons rfl ?_
      | refine CO.nil ?_
      | refine CV.seq ?_
      | refine CV.region callees ?_
      | refine CV.block ?_
      | (refine ⟨_, di_len hs3, ?_⟩)
      | fail
    refine CV.loopc ?_
    refine WCv.rounds callees false (α := Nat × Nat) (fun (k, c) => [(1, sv), (2, VI need), (8, .pointer (some ⟨b2, 0, none⟩)), (9, VI c), (12, gv), (13, VI gs.length), (14, VI i), (18, sv), (19, VI ss.length), (20, VI k)]) (fun (k, c) Hz => k ≤ ss.length ∧ c = cntD g (ss.take k) ∧ Keep H3 Hz) (fun (k, c) => ss.length - k) (0, 0) (by repeat' first | exact trivial | refine ⟨rfl, ?_⟩ | refine ⟨slot_int (by (try simp only [Int.toNat_natCast]); omega), ?_⟩) ?_ ?_
    · exact ⟨by omega, rfl, Keep.refl _⟩
    rintro ⟨k, c⟩ Hy ⟨hk, hc, ky⟩ hBy
    have ly := ky.1
    have hcl : c ≤ k := by rw [hc]; exact Nat.le_trans cntD_le (by rw [List.length_take]; omega)
    have hgy := (ky.2 b2 hb2n).trans hg3
    by_cases hk2 : k < ss.length
    · have hsy := hs3.keep ky
      repeat' first
        | refine CO.cons rfl ?_
        | refine CO.nil ?_
        | refine CV.seq ?_
        | refine CV.region callees ?_
        | refine CV.cond ?_
        | refine CV.block ?_
        | refine CV.skip ?_
        | (refine ⟨_, di_addr hsy (by omega) (by omega), ?_⟩)
        | (refine ⟨_, di_load hsy hk2, ?_⟩)
        | (refine ⟨_, _, alDi, ?_⟩)
        | (refine ⟨fun _ => ?_, fun _ => ?_⟩ <;> first | (exfalso; omega) | skip)
        | fail
      generalize hs4 : Heap.new Hy _ = H4
      have hg4 := new_get hs4
      have k4 := new_keep hs4
      have n4 := new_n hs4
      obtain ⟨b4, hbn4⟩ : ∃ b, Heap.n Hy = b := ⟨_, rfl⟩
      rw [hbn4] at hg4 n4 ⊢
      repeat' first
        | fail
      refine ⟨_, _, stDi hg4, by omega, ?_⟩
      generalize hs5 : Heap.set H4 b4 _ = H5
      have hg5 : H5.get b4 = some (.cells (Dil ss[k]!) dT 1) := set_get hs5
      have n5 := set_n hs5
      have o5 := set_old hs5
      have k5 : Keep Hy H5 := keep_put k4 (by omega) o5 n5
      have l5 := k5.1
      have hgy5 := (k5.2 b2 (by omega)).trans hgy
      repeat' first
        | refine CO.cons rfl ?_
        | refine CO.nil ?_
        | refine CV.seq ?_
        | refine CV.region callees ?_
        | (refine ⟨_, ld68 hgy5, ?_⟩)
        | (refine ⟨_, ldDi hg5, ?_⟩)
        | fail
      refine (eats_spec (by omega) hgra (hok k hk2)).mono ?_
      rintro r H6 ⟨⟨v, rfl, hv⟩, k6⟩
      have l6 := k6.1
      have hct := cntD_take (g := g) hk2
      rw [← hc] at hct
      by_cases hv1 : v = 1
      · rw [if_pos (hv.1 hv1)] at hct
        repeat' first
          | refine CO.cons rfl ?_
          | refine CO.nil ?_
          | refine CV.region callees ?_
          | refine CV.cond ?_
          | refine ⟨(⟨by omega, by omega⟩ : inI64 _), ?_⟩
          | (refine ⟨fun _ => ?_, fun _ => ?_⟩ <;> first | (exfalso; omega) | skip)
          | fail
        refine ⟨(k + 1, c + 1), (by repeat' first | exact trivial | refine ⟨rfl, ?_⟩ | refine ⟨slot_int (by (try simp only [Int.toNat_natCast]); omega), ?_⟩), (by (try dsimp only); omega), ?_⟩
        exact ⟨by omega, hct.symm, ky.trans (k5.trans k6)⟩
      · rw [if_neg (fun h => hv1 (hv.2 h))] at hct
        repeat' first
          | refine CO.cons rfl ?_
          | refine CO.nil ?_
          | refine CV.region callees ?_
          | refine CV.cond ?_
          | refine CV.skip ?_
          | refine ⟨(⟨by omega, by omega⟩ : inI64 _), ?_⟩
          | (refine ⟨fun _ => ?_, fun _ => ?_⟩ <;> first | (exfalso; omega) | skip)
          | fail
        refine ⟨(k + 1, c), (by repeat' first | exact trivial | refine ⟨rfl, ?_⟩ | refine ⟨slot_int (by (try simp only [Int.toNat_natCast]); omega), ?_⟩), (by (try dsimp only); omega), ?_⟩
        exact ⟨by omega, hct.symm, ky.trans (k5.trans k6)⟩
    obtain rfl : k = ss.length := by omega
    rw [List.take_length] at hc
    by_cases hn : need ≤ (c : Int)
    · repeat' first
        | refine CO.cons rfl ?_
        | refine CO.nil ?_
        | refine CV.seq ?_
        | refine CV.region callees ?_
        | refine CV.cond ?_
        | refine CV.skip ?_
        | refine CV.exit ?_
        | refine ⟨(⟨by omega, by omega⟩ : inI64 _), ?_⟩
        | (refine ⟨fun _ => ?_, fun _ => ?_⟩ <;> first | (exfalso; omega) | skip)
        | fail
      refine ⟨(i + 1), (by repeat' first | exact trivial | refine ⟨rfl, ?_⟩ | refine ⟨slot_int (by (try simp only [Int.toNat_natCast]); omega), ?_⟩), (by (try dsimp only); omega), ?_⟩
      refine ⟨by omega, fun j hj => ?_, kx.trans (k3.trans ky)⟩
      by_cases e : j = i
      · rw [e, hgE, ← hc]; exact hn
      · exact hall j (by omega)
    · have he : enD gs ss need = false := by
        cases h : enD gs ss need with
        | false => rfl
        | true => have := enD_all.1 h i hi2; rw [hgE, ← hc] at this; exact absurd this hn
      repeat' first
        | refine CO.cons rfl ?_
        | refine CO.nil ?_
        | refine CV.seq ?_
        | refine CV.region callees ?_
        | refine CV.cond ?_
        | refine CV.exit ?_
        | refine CV.ret ?_
        | (refine ⟨fun _ => ?_, fun _ => ?_⟩ <;> first | (exfalso; omega) | skip)
        | fail
      exact ⟨rfl, by rw [he], kx.trans (k3.trans ky)⟩
  obtain rfl : i = gs.length := by omega
  have he : enD gs ss need = true := enD_all.2 hall
  repeat' first
    | refine CO.cons rfl ?_
    | refine CO.nil ?_
    | refine CV.seq ?_
    | refine CV.region callees ?_
    | refine CV.cond ?_
    | refine CV.exit ?_
    | refine CV.ret ?_
    | (refine ⟨fun _ => ?_, fun _ => ?_⟩ <;> first | (exfalso; omega) | skip)
    | fail
  exact ⟨rfl, by rw [he], kx⟩
set_option maxRecDepth 100000 in
theorem menus_spec {B n : Nat} {H : Heap} {dv : Value} {ds : List Di} (hB : B ≤ H.n) (hd : RowS 3 H dv (ds.map Dil)) :
    CallB Try.prog B 101 [dv, VI n] H (fun v H' => (∃ c d, v = .func (.func 145) #[] #[.pointer (some ⟨c, 0, none⟩), .pointer (some ⟨c + 1, 0, none⟩), .pointer (some ⟨c + 2, 0, none⟩)] ∧ CapsM c n d dv ds H' ∧ H.n ≤ d ∧ d < c ∧ c + 2 < H'.n) ∧ Keep H H') := by
  refine CV.enter callees false rfl Try.func101 rfl (by kernel_rfl) (Nat.le_of_ble_eq_true rfl) hB ?_
  repeat' first
    | refine CO.cons rfl ?_
    | refine CV.seq ?_
    | refine CV.region callees ?_
    | fail
  refine ⟨hd.cells.2.2, ?_⟩
  rw [hd.cells.1, show anew H [dv] dS 1 = H.new (.cells [dv] dS 1) from rfl]
  generalize hs3 : Heap.new H _ = H3
  have hg3 := new_get hs3
  have k3 := new_keep hs3
  have n3 := new_n hs3
  obtain ⟨b3, hbn3⟩ : ∃ b, Heap.n H = b := ⟨_, rfl⟩
  rw [hbn3] at hg3 n3 ⊢
  have hd3 := hd.keep k3
  have l3 := k3.1
  have hl : CallB Try.prog B 128 [VI n, VI ds.length, .func (.func 134) #[] #[.pointer (some ⟨b3, 0, none⟩)]] H3 (fun v H' => (∃ c, v = .func (.func 145) #[] #[.pointer (some ⟨c, 0, none⟩), .pointer (some ⟨c + 1, 0, none⟩), .pointer (some ⟨c + 2, 0, none⟩)] ∧ CapsM c n b3 dv ds H' ∧ H3.n ≤ c ∧ c + 2 < H'.n) ∧ Keep H3 H') := by
    have hB3 : B ≤ H3.n := by omega
    refine CV.enter callees false rfl Try.func128 rfl (by kernel_rfl) (Nat.le_of_ble_eq_true rfl) hB3 ?_
    repeat' first
      | refine CO.cons rfl ?_
      | refine CV.seq ?_
      | refine CV.region callees ?_
      | fail
    refine ⟨(by rfl), ?_⟩
    generalize hs0' : anew H3 _ _ _ = H0
    have hs0 : H3.new (.cells [VI n] 3 1) = H0 := hs0'
    have hg0 := new_get hs0
    have k0 := new_keep hs0
    have n0 := new_n hs0
    repeat' first
      | refine CO.cons rfl ?_
      | fail
    refine ⟨(by rfl), ?_⟩
    generalize hs1' : anew H0 _ _ _ = H1
    have hs1 : H0.new (.cells [VI ds.length] 3 1) = H1 := hs1'
    have hg1 := new_get hs1
    have k1 := new_keep hs1
    have n1 := new_n hs1
    rw [n0] at hg1
    repeat' first
      | refine CO.cons rfl ?_
      | fail
    refine ⟨(by rfl), ?_⟩
    generalize hs2' : anew H1 _ _ _ = H2
    have hs2 : H1.new (.cells [.func (.func 134) #[] #[.pointer (some ⟨b3, 0, none⟩)]] fT 1) = H2 := hs2'
    have hg2 := new_get hs2
    have k2 := new_keep hs2
    have n2 := new_n hs2
    rw [n1, n0] at hg2
    have k02 := (k0.trans k1).trans k2
    repeat' first
      | refine CO.cons rfl ?_
      | refine CO.nil ?_
      | refine CV.seq ?_
      | refine CV.region callees ?_
      | refine CV.ret ?_
      | (refine ⟨(rfl : List.all _ cellLike = true), ?_⟩)
      | fail
    exact ⟨rfl, ⟨H3.n, by rw [n1, n0], ⟨(k2.2 _ (by omega)).trans ((k1.2 _ (by omega)).trans hg0), (k2.2 _ (by omega)).trans hg1, hg2, (k02.2 b3 (by omega)).trans hg3, hd3.keep k02⟩, by omega, by omega⟩, k02⟩
  repeat' first
    | refine CO.cons rfl ?_
    | refine CO.nil ?_
    | refine CV.seq ?_
    | refine CV.region callees ?_
    | (refine ⟨_, cell_load agDS hg3 rfl, ?_⟩)
    | (refine ⟨_, di_len hd3, ?_⟩)
    | (refine ⟨(rfl : List.all _ cellLike = true), ?_⟩)
    | fail
  refine hl.mono ?_
  rintro v H4 ⟨⟨c, rfl, h1, h2, h3⟩, k4⟩
  repeat' first
    | refine CO.cons rfl ?_
    | refine CO.nil ?_
    | refine CV.ret ?_
    | fail
  exact ⟨rfl, ⟨c, b3, rfl, h1, by omega, by omega, h3⟩, k3.trans k4⟩
set_option maxRecDepth 100000 in
theorem eatsP_spec {B : Nat} {H : Heap} {g : Gu} {d : Di} (hB : B ≤ H.n) (hg : GuOk g) (hd : DiOk d) :
    CallB Try.prog B 50 [Guv g, Div d] H (fun r H' => (∃ c, r = .tuple #[VI c, VI 0] ∧ (c = 1 ↔ sureB g d = true)) ∧ Keep H H') := by
  refine CV.enter callees false rfl Try.func50 rfl (by kernel_rfl) (Nat.le_of_ble_eq_true rfl) hB ?_
  repeat' first
    | refine CO.cons rfl ?_
    | refine CV.seq ?_
    | refine CV.region callees ?_
    | fail
  refine ⟨(by simp only [notTuple]), ?_⟩
  rw [boxG]
  generalize hs0 : Heap.new H _ = H0
  have hg0 := new_get hs0
  have k0 := new_keep hs0
  have n0 := new_n hs0
  obtain ⟨b0, hbn0⟩ : ∃ b, Heap.n H = b := ⟨_, rfl⟩
  rw [hbn0] at hg0 n0 ⊢
  repeat' first
    | refine CO.cons rfl ?_
    | fail
  refine ⟨(by simp only [notTuple]), ?_⟩
  rw [boxD]
  generalize hs1 : Heap.new H0 _ = H1
  have hg1 := new_get hs1
  have k1 := new_keep hs1
  have n1 := new_n hs1
  obtain ⟨b1, hbn1⟩ : ∃ b, Heap.n H0 = b := ⟨_, rfl⟩
  rw [hbn1] at hg1 n1 ⊢
  have k01 := k0.trans k1
  have hg01 := (k1.2 b0 (by omega)).trans hg0
  repeat' first
    | refine CO.cons rfl ?_
    | refine CO.nil ?_
    | refine CV.seq ?_
    | refine CV.region callees ?_
    | (refine ⟨_, ld68 hg01, ?_⟩)
    | fail
  refine (checkGuest_spec (by omega) hg).mono ?_
  rintro r H2 ⟨rfl, k2⟩
  have l2 := k2.1
  have hg12 := (k2.2 b1 (by omega)).trans hg1
  have hg02 := (k2.2 b0 (by omega)).trans hg01
  repeat' first
    | refine CO.cons rfl ?_
    | refine CO.nil ?_
    | refine CV.seq ?_
    | refine CV.region callees ?_
    | refine CV.cond ?_
    | refine CV.skip ?_
    | (refine ⟨_, ldDi hg12, ?_⟩)
    | (refine ⟨fun _ => ?_, fun _ => ?_⟩ <;> first | (exfalso; omega) | skip)
    | fail
  refine (checkDish_spec (by omega) hd).mono ?_
  rintro r H3 ⟨rfl, k3⟩
  have l3 := k3.1
  have hg13 := (k3.2 b1 (by omega)).trans hg12
  have hg03 := (k3.2 b0 (by omega)).trans hg02
  repeat' first
    | refine CO.cons rfl ?_
    | refine CO.nil ?_
    | refine CV.seq ?_
    | refine CV.region callees ?_
    | refine CV.cond ?_
    | refine CV.skip ?_
    | (refine ⟨_, ld68 hg03, ?_⟩)
    | (refine ⟨_, ldDi hg13, ?_⟩)
    | (refine ⟨fun _ => ?_, fun _ => ?_⟩ <;> first | (exfalso; omega) | skip)
    | fail
  refine (eats_spec (by omega) (ra_gu hg) hd).mono ?_
  rintro r H4 ⟨⟨c, rfl, hc⟩, k4⟩
  repeat' first
    | refine CO.cons rfl ?_
    | refine CO.nil ?_
    | refine CV.ret ?_
    | fail
  exact ⟨rfl, ⟨c, rfl, hc⟩, ((k01.trans k2).trans k3).trans k4⟩
end Go.Proofs.Ytlamceokhbigaaa

