
/- The reference's checks of days and chains. -/
import Derived.Test.Ytijimplcjaeneaal4o
import Derived.Test.YtijimplcjaeneaaO4
set_option linter.unusedVariables false
set_option linter.unusedSimpArgs false
namespace Go.Proofs.Ytijimplcjaeneaa
open Go.AI
set_option maxRecDepth 100000 in
theorem checkDay_spec {B : Nat} {H : Heap} {lo hi : Int} (hB : B ≤ H.n) :
    CallB Try.prog B 88 [Spv lo hi] H (fun v H' => v = VI (spanE lo hi 0 100000) ∧ Keep H H') := by
  refine CV.enter callees false rfl Try.func88 rfl (by kernel_rfl) (Nat.le_of_ble_eq_true rfl) hB ?_
  repeat' first
    | refine CO.cons rfl ?_
    | refine CV.seq ?_
    | refine CV.region callees ?_
    | fail
  refine ⟨(by simp only [notTuple]), ?_⟩
  rw [boxSp]
  generalize hs0 : Heap.new H _ = H0
  have hg0 := new_get hs0
  have k0 := new_keep hs0
  have n0 := new_n hs0
  obtain ⟨b0, hbn0⟩ : ∃ b, Heap.n H = b := ⟨_, rfl⟩
  rw [hbn0] at hg0 n0 ⊢
  repeat' first
    | refine CO.cons rfl ?_
    | refine CO.nil ?_
    | refine CV.seq ?_
    | refine CV.region callees ?_
    | (refine ⟨_, fS foS0 (by decide), ?_⟩)
    | (refine ⟨_, cell_load ag3 hg0 rfl, ?_⟩)
    | fail
  refine (withinR_spec (by omega)).mono ?_
  cases c1 : inB lo 0 100000
  · rintro v H1 ⟨rfl, rfl⟩
    repeat' first
      | refine CO.cons rfl ?_
      | refine CO.nil ?_
      | refine CV.seq ?_
      | refine CV.region callees ?_
      | refine CV.cond ?_
      | refine CV.ret ?_
      | refine CO.consG rfl ?_
      | fail
    exact ⟨rfl, by simp [spanE, c1], k0⟩
  rintro v H1 ⟨rfl, rfl⟩
  repeat' first
    | refine CO.cons rfl ?_
    | refine CO.consG rfl ?_
    | (refine ⟨_, fS foS1 (by decide), ?_⟩)
    | (refine ⟨_, cell_load ag3 hg0 rfl, ?_⟩)
    | fail
  refine (withinR_spec (by omega)).mono ?_
  cases c2 : inB hi 0 100000
  · rintro v H1 ⟨rfl, rfl⟩
    repeat' first
      | refine CO.cons rfl ?_
      | refine CO.nil ?_
      | refine CV.seq ?_
      | refine CV.region callees ?_
      | refine CV.cond ?_
      | refine CV.ret ?_
      | refine CO.consG rfl ?_
      | fail
    exact ⟨rfl, by simp [spanE, c1, c2], k0⟩
  rintro v H1 ⟨rfl, rfl⟩
  by_cases h : hi < lo
  · repeat' first
      | refine CO.cons rfl ?_
      | refine CO.nil ?_
      | refine CV.seq ?_
      | refine CV.region callees ?_
      | refine CV.cond ?_
      | refine CV.skip ?_
      | refine CV.ret ?_
      | refine CO.consG rfl ?_
      | (refine ⟨_, fS foS0 (by decide), ?_⟩)
      | (refine ⟨_, fS foS1 (by decide), ?_⟩)
      | (refine ⟨_, cell_load ag3 hg0 rfl, ?_⟩)
      | (refine ⟨fun _ => ?_, fun _ => ?_⟩ <;> first | (exfalso; omega) | skip)
      | fail
    exact ⟨rfl, by simp [spanE, c1, c2, h], k0⟩
  · repeat' first
      | refine CO.cons rfl ?_
      | refine CO.nil ?_
      | refine CV.seq ?_
      | refine CV.region callees ?_
      | refine CV.cond ?_
      | refine CV.skip ?_
      | refine CV.ret ?_
      | refine CO.consG rfl ?_
      | (refine ⟨_, fS foS0 (by decide), ?_⟩)
      | (refine ⟨_, fS foS1 (by decide), ?_⟩)
      | (refine ⟨_, cell_load ag3 hg0 rfl, ?_⟩)
      | (refine ⟨fun _ => ?_, fun _ => ?_⟩ <;> first | (exfalso; omega) | skip)
      | fail
    exact ⟨rfl, by simp [spanE, c1, c2, h], k0⟩
set_option maxRecDepth 100000 in
theorem wider_spec {B : Nat} {H : Heap} {a b x y : Int} (hB : B ≤ H.n) :
    CallB Try.prog B 82 [Spv a b, VI x, VI y] H (fun v H' => v = Spv (min a x) (max b y) ∧ Keep H H') := by
  refine CV.enter callees false rfl Try.func82 rfl (by kernel_rfl) (Nat.le_of_ble_eq_true rfl) hB ?_
  repeat' first
    | refine CO.cons rfl ?_
    | refine CV.seq ?_
    | refine CV.region callees ?_
    | fail
  refine ⟨(by simp only [notTuple]), ?_⟩
  rw [boxSp]
  generalize hs0 : Heap.new H _ = H0
  have hg0 := new_get hs0
  have k0 := new_keep hs0
  have n0 := new_n hs0
  obtain ⟨b0, hbn0⟩ : ∃ b, Heap.n H = b := ⟨_, rfl⟩
  rw [hbn0] at hg0 n0 ⊢
  repeat' first
    | refine CO.cons rfl ?_
    | refine CO.nil ?_
    | refine CV.seq ?_
    | refine CV.region callees ?_
    | (refine ⟨_, _, alSp, ?_⟩)
    | fail
  generalize hs1 : Heap.new H0 _ = H1
  have hg1 := new_get hs1
  have k1 := new_keep hs1
  have n1 := new_n hs1
  obtain ⟨b1, hbn1⟩ : ∃ b, Heap.n H0 = b := ⟨_, rfl⟩
  rw [hbn1] at hg1 n1 ⊢
  have hg01 := (k1.2 b0 (by omega)).trans hg0
  repeat' first
    | refine CO.cons rfl ?_
    | refine ⟨_, fun tm ha => step1_max rfl (ev_tmp ha rfl) (ev_tmp ha rfl), ?_⟩
    | refine ⟨_, fun tm ha => step1_min rfl (ev_tmp ha rfl) (ev_tmp ha rfl), ?_⟩
    | (refine ⟨_, fS foS0 (by decide), ?_⟩)
    | (refine ⟨_, fS foS1 (by decide), ?_⟩)
    | (refine ⟨_, cell_load ag3 hg01 rfl, ?_⟩)
    | (refine ⟨_, buSp, ?_⟩)
    | fail
  refine ⟨_, _, stSp hg1, by omega, ?_⟩
  generalize hs2 : Heap.set H1 b1 _ = H2
  have hg2 : H2.get b1 = some (.cells ([VI (min a x), VI (max b y)]) sT 1) := set_get hs2
  have n2 := set_n hs2
  have o2 := set_old hs2
  repeat' first
    | refine CO.nil ?_
    | refine CV.ret ?_
    | fail
  exact ⟨_, ldSp hg2, rfl, rfl, keep_put (k0.trans k1) (by omega) o2 n2⟩
set_option maxHeartbeats 16000000 in
set_option maxRecDepth 100000 in
theorem checkChainR_spec {B : Nat} {H : Heap} {mk lo hi : Int} {sv : Value} {ls : List Lk} (hB : B ≤ H.n) (hr : RowS 4 H sv (ls.map Lkl)) :
    CallB Try.prog B 27 [Chv mk lo hi sv] H (fun v H' => v = VI (chkC mk lo hi ls) ∧ Keep H H') := by
  refine CV.enter callees false rfl Try.func27 rfl (by kernel_rfl) (Nat.le_of_ble_eq_true rfl) hB ?_
  repeat' first
    | refine CO.cons rfl ?_
    | refine CV.seq ?_
    | refine CV.region callees ?_
    | fail
  refine ⟨(by simp only [notTuple]), ?_⟩
  rw [boxCh hr.cells.1]
  generalize hs0 : Heap.new H _ = H0
  have hg0 := new_get hs0
  have k0 := new_keep hs0
  have n0 := new_n hs0
  obtain ⟨b0, hbn0⟩ : ∃ b, Heap.n H = b := ⟨_, rfl⟩
  rw [hbn0] at hg0 n0 ⊢
  have hr0 := hr.keep k0
  repeat' first
    | refine CO.cons rfl ?_
    | refine CO.nil ?_
    | refine CV.seq ?_
    | refine CV.region callees ?_
    | (refine ⟨_, fS foC0 (by decide), ?_⟩)
    | (refine ⟨_, cell_load ag3 hg0 rfl, ?_⟩)
    | fail
  refine (withinR_spec (by omega)).mono ?_
  unfold chkC
  cases c1 : inB mk 0 19
  · rintro v H1 ⟨rfl, rfl⟩
    repeat' first
      | refine CO.cons rfl ?_
      | refine CO.nil ?_
      | refine CV.seq ?_
      | refine CV.region callees ?_
      | refine CV.cond ?_
      | refine CV.ret ?_
      | fail
    exact ⟨rfl, rfl, k0⟩
  rintro v H1 ⟨rfl, rfl⟩
  repeat' first
    | refine CO.cons rfl ?_
    | refine CO.nil ?_
    | refine CV.seq ?_
    | refine CV.region callees ?_
    | refine CV.cond ?_
    | refine CV.skip ?_
    | (refine ⟨_, fS foC1 (by decide), ?_⟩)
    | (refine ⟨_, ldChS hg0, ?_⟩)
    | fail
  refine (checkDay_spec (by omega)).mono ?_
  rintro v H2 ⟨rfl, k2⟩
  have l2 := k2.1
  have hg2 := (k2.2 b0 (by omega)).trans hg0
  have hr2 := hr0.keep k2
  rw [cond_true]
  by_cases hsp : spanE lo hi 0 100000 = 0
  rotate_left
  · rw [if_neg hsp]
    repeat' first
      | refine CO.cons rfl ?_
      | refine CO.nil ?_
      | refine CV.seq ?_
      | refine CV.region callees ?_
      | refine CV.cond ?_
      | refine CV.ret ?_
      | (refine ⟨fun _ => ?_, fun _ => ?_⟩ <;> first | (exfalso; omega) | skip)
      | fail
    exact ⟨rfl, rfl, k0.trans k2⟩
  have hsb := spanE_bd hsp
  rw [if_pos hsp]
  by_cases h7 : 7 < ls.length
  · rw [if_pos h7]
    repeat' first
      | refine CO.cons rfl ?_
      | refine CO.nil ?_
      | refine CV.seq ?_
      | refine CV.region callees ?_
      | refine CV.cond ?_
      | refine CV.skip ?_
      | refine CV.ret ?_
      | (refine ⟨_, fS foC2 (by decide), ?_⟩)
      | (refine ⟨_, cell_load agLs hg2 rfl, ?_⟩)
      | (refine ⟨_, ls_len hr2, ?_⟩)
      | (refine ⟨fun _ => ?_, fun _ => ?_⟩ <;> first | (exfalso; omega) | skip)
      | fail
    exact ⟨rfl, rfl, k0.trans k2⟩
  rw [if_neg h7]
  repeat' first
    | refine CO.cons rfl ?_
    | refine CO.nil ?_
    | refine CV.seq ?_
    | refine CV.region callees ?_
    | refine CV.cond ?_
    | refine CV.block ?_
    | refine CV.skip ?_
    | (refine ⟨_, fS foC2 (by decide), ?_⟩)
    | (refine ⟨_, cell_load agLs hg2 rfl, ?_⟩)
    | (refine ⟨_, ls_len hr2, ?_⟩)
    | (refine ⟨fun _ => ?_, fun _ => ?_⟩ <;> first | (exfalso; omega) | skip)
    | fail
  refine CV.loopc ?_
  refine WCv.rounds callees false (α := Nat) (fun i => [(1, .pointer (some ⟨b0, 0, none⟩)), (4, VI i)]) (fun i Hz => i ≤ ls.length ∧ linksE (ls.drop i) = linksE ls ∧ Hz.get b0 = some (.cells (Chl mk lo hi sv) 26 1) ∧ Keep H Hz ∧ b0 < Hz.n) (fun i => ls.length - i) (0) (by repeat' first | exact trivial | refine ⟨rfl, ?_⟩ | refine ⟨slot_int (by (try simp only [Int.toNat_natCast]); omega), ?_⟩) ?_ ?_
  · exact ⟨by omega, rfl, hg2, k0.trans k2, by omega⟩
  rintro i Hx ⟨hi, hle, hgx, kx, lx⟩ hBx
  have hrx := hr.keep kx
  by_cases hi2 : i < ls.length
  · rw [show ls.drop i = ls[i]! :: ls.drop (i + 1) by rw [List.drop_eq_getElem_cons hi2, getElem!_pos ls i hi2]] at hle
    simp only [linksE] at hle
    repeat' first
      | refine CO.cons rfl ?_
      | refine CO.nil ?_
      | refine CV.seq ?_
      | refine CV.region callees ?_
      | refine CV.cond ?_
      | refine CV.block ?_
      | refine CV.skip ?_
      | (refine ⟨_, fS foC2 (by decide), ?_⟩)
      | (refine ⟨_, cell_load agLs hgx rfl, ?_⟩)
      | (refine ⟨_, ls_len hrx, ?_⟩)
      | (refine ⟨_, ls_addr hrx (by omega) (by omega), ?_⟩)
      | (refine ⟨_, ls_load hrx hi2, ?_⟩)
      | (refine ⟨_, _, alLk, ?_⟩)
      | (refine ⟨fun _ => ?_, fun _ => ?_⟩ <;> first | (exfalso; omega) | skip)
      | fail
    generalize hs4 : Heap.new Hx _ = H4
    have hg4 := new_get hs4
    have k4 := new_keep hs4
    have n4 := new_n hs4
    obtain ⟨b4, hbn4⟩ : ∃ b, Heap.n Hx = b := ⟨_, rfl⟩
    rw [hbn4] at hg4 n4 ⊢
    repeat' first
      | fail
    refine ⟨_, _, stLk hg4, by omega, ?_⟩
    generalize hs5 : Heap.set H4 b4 _ = H5
    have hg5 : H5.get b4 = some (.cells (Lkl ls[i]!) 28 1) := set_get hs5
    have n5 := set_n hs5
    have o5 := set_old hs5
    have k5 : Keep Hx H5 := keep_put k4 (by omega) o5 n5
    have l5 := k5.1
    obtain ⟨x, hx⟩ : ∃ x, ls[i]! = x := ⟨_, rfl⟩
    rw [hx] at hg5 hle
    have fin : ∀ {e : Int} {X : Heap}, linkE x = e → e ≠ 0 → Keep H5 X → VI e = VI (if linksE ls = 0 then (bif (ordersL mk lo ls).isEmpty then 12 else 0) else linksE ls) ∧ Keep H X := fun {e X} he hne kX => by
      rw [he, if_neg hne] at hle
      rw [← hle, if_neg hne]
      exact ⟨rfl, (kx.trans k5).trans kX⟩
    repeat' first
      | refine CO.cons rfl ?_
      | refine CO.nil ?_
      | refine CV.seq ?_
      | refine CV.region callees ?_
      | (refine ⟨_, fS foL0 (by decide), ?_⟩)
      | (refine ⟨_, cell_load ag3 hg5 rfl, ?_⟩)
      | fail
    refine (withinR_spec (by omega)).mono ?_
    cases c2 : inB x.f 0 19
    · rintro v H6 ⟨rfl, rfl⟩
      repeat' first
        | refine CO.cons rfl ?_
        | refine CO.nil ?_
        | refine CV.seq ?_
        | refine CV.region callees ?_
        | refine CV.cond ?_
        | refine CV.ret ?_
        | refine CO.consG rfl ?_
        | fail
      exact ⟨rfl, fin (by simp [linkE, c2]) (by decide) (Keep.refl _)⟩
    rintro v H6 ⟨rfl, rfl⟩
    repeat' first
      | refine CO.cons rfl ?_
      | refine CO.consG rfl ?_
      | (refine ⟨_, fS foL1 (by decide), ?_⟩)
      | (refine ⟨_, cell_load ag3 hg5 rfl, ?_⟩)
      | fail
    refine (withinR_spec (by omega)).mono ?_
    cases c3 : inB x.t 0 19
    · rintro v H6 ⟨rfl, rfl⟩
      repeat' first
        | refine CO.cons rfl ?_
        | refine CO.nil ?_
        | refine CV.seq ?_
        | refine CV.region callees ?_
        | refine CV.cond ?_
        | refine CV.ret ?_
        | refine CO.consG rfl ?_
        | fail
      exact ⟨rfl, fin (by simp [linkE, c2, c3]) (by decide) (Keep.refl _)⟩
    rintro v H6 ⟨rfl, rfl⟩
    by_cases hft : x.f = x.t
    · repeat' first
        | refine CO.cons rfl ?_
        | refine CO.nil ?_
        | refine CV.seq ?_
        | refine CV.region callees ?_
        | refine CV.cond ?_
        | refine CV.skip ?_
        | refine CV.ret ?_
        | refine CO.consG rfl ?_
        | (refine ⟨_, fS foL0 (by decide), ?_⟩)
        | (refine ⟨_, fS foL1 (by decide), ?_⟩)
        | (refine ⟨_, cell_load ag3 hg5 rfl, ?_⟩)
        | (refine ⟨fun _ => ?_, fun _ => ?_⟩ <;> first | (exfalso; omega) | skip)
        | fail
      exact ⟨rfl, fin (by simp [linkE, c2, c3, hft]) (by decide) (Keep.refl _)⟩
    repeat' first
      | refine CO.cons rfl ?_
      | refine CO.nil ?_
      | refine CV.seq ?_
      | refine CV.region callees ?_
      | refine CV.cond ?_
      | refine CV.skip ?_
      | refine CO.consG rfl ?_
      | (refine ⟨_, fS foL0 (by decide), ?_⟩)
      | (refine ⟨_, fS foL1 (by decide), ?_⟩)
      | (refine ⟨_, cell_load ag3 hg5 rfl, ?_⟩)
      | (refine ⟨_, fS foL2 (by decide), ?_⟩)
      | (refine ⟨_, ldLkS hg5, ?_⟩)
      | (refine ⟨fun _ => ?_, fun _ => ?_⟩ <;> first | (exfalso; omega) | skip)
      | fail
    have hle2 : linkE x = spanE x.lo x.hi 0 100000 := by simp [linkE, c2, c3, hft]
    refine (checkDay_spec (by omega)).mono ?_
    rintro v H7 ⟨rfl, k7⟩
    have l7 := k7.1
    by_cases he : spanE x.lo x.hi 0 100000 = 0
    · rw [hle2, if_pos he] at hle
      repeat' first
        | refine CO.cons rfl ?_
        | refine CO.nil ?_
        | refine CV.seq ?_
        | refine CV.region callees ?_
        | refine CV.cond ?_
        | refine CV.skip ?_
        | refine ⟨(⟨by omega, by omega⟩ : inI64 _), ?_⟩
        | (refine ⟨fun _ => ?_, fun _ => ?_⟩ <;> first | (exfalso; omega) | skip)
        | fail
      refine ⟨(i + 1), (by repeat' first | exact trivial | refine ⟨rfl, ?_⟩ | refine ⟨slot_int (by (try simp only [Int.toNat_natCast]); omega), ?_⟩), (by (try dsimp only); omega), ?_⟩
      exact ⟨by omega, hle, (k7.2 b0 (by omega)).trans ((k5.2 b0 (by omega)).trans hgx), (kx.trans k5).trans k7, by omega⟩
    · repeat' first
        | refine CO.cons rfl ?_
        | refine CO.nil ?_
        | refine CV.seq ?_
        | refine CV.region callees ?_
        | refine CV.cond ?_
        | refine CV.ret ?_
        | (refine ⟨fun _ => ?_, fun _ => ?_⟩ <;> first | (exfalso; omega) | skip)
        | fail
      exact ⟨rfl, fin hle2 he k7⟩
  obtain rfl : i = ls.length := by omega
  rw [List.drop_length] at hle
  have hz : linksE ls = 0 := hle.symm
  have hlsok := lsOk_of (by omega) hz
  have hon := orders_len (mk := mk) (lo := lo) hlsok.n
  rw [if_pos hz]
  repeat' first
    | refine CO.cons rfl ?_
    | refine CO.nil ?_
    | refine CV.seq ?_
    | refine CV.region callees ?_
    | refine CV.cond ?_
    | refine CV.exit ?_
    | (refine ⟨_, fS foC2 (by decide), ?_⟩)
    | (refine ⟨_, cell_load agLs hgx rfl, ?_⟩)
    | (refine ⟨_, ls_len hrx, ?_⟩)
    | (refine ⟨_, ldCh hgx, ?_⟩)
    | (refine ⟨fun _ => ?_, fun _ => ?_⟩ <;> first | (exfalso; omega) | skip)
    | fail
  refine (storiesR_spec (by omega) hrx hlsok (by omega) (by omega) (by omega)).mono ?_
  rintro v H6 ⟨⟨rs, hst⟩, k6⟩
  have hal : alen Try.prog H6 ySs v = some (VI (ordersL mk lo ls).length) := by
    have := hst.o.row.alen unYs
    rwa [List.length_map, hst.n] at this
  cases hos : ordersL mk lo ls with
  | nil =>
    have hal2 : alen Try.prog H6 ySs v = some (VI 0) := by rw [hal, hos]; rfl
    repeat' first
      | refine CO.cons rfl ?_
      | refine CO.nil ?_
      | refine CV.seq ?_
      | refine CV.region callees ?_
      | refine CV.cond ?_
      | refine CV.ret ?_
      | (refine ⟨_, hal2, ?_⟩)
      | (refine ⟨fun _ => ?_, fun _ => ?_⟩ <;> first | (exfalso; omega) | skip)
      | fail
    exact ⟨rfl, rfl, kx.trans k6⟩
  | cons a t =>
    have hal2 : alen Try.prog H6 ySs v = some (VI (t.length + 1 : Nat)) := by rw [hal, hos]; rfl
    have hpos : 0 < t.length + 1 := Nat.succ_pos _
    repeat' first
      | refine CO.cons rfl ?_
      | refine CO.nil ?_
      | refine CV.seq ?_
      | refine CV.region callees ?_
      | refine CV.cond ?_
      | refine CV.skip ?_
      | refine CV.ret ?_
      | (refine ⟨_, hal2, ?_⟩)
      | (refine ⟨fun _ => ?_, fun _ => ?_⟩ <;> first | (exfalso; omega) | skip)
      | fail
    exact ⟨rfl, rfl, kx.trans k6⟩
end Go.Proofs.Ytijimplcjaeneaa
