
/- The reference's Orders; what is the same. -/
import Derived.Test.Ytijimplcjaeneaam0o
set_option linter.unusedVariables false
set_option linter.unusedSimpArgs false
namespace Go.Proofs.Ytijimplcjaeneaa
open Go.AI
theorem foY0 : fieldOff Try.prog yS 0 = some (0, 1) := by kernel_rfl
theorem foY1 : fieldOff Try.prog yS 1 = some (1, 1) := by kernel_rfl
theorem foY2 : fieldOff Try.prog yS 2 = some (2, 1) := by kernel_rfl
theorem agIs1 : isAggB Try.prog iT = some false := by kernel_rfl
theorem sto_at {mk lo hi : Int} {ls : List Lk} {H : Heap} {v : Value} {rs : List V3} {S : List (List Int)} {B : Nat} (h : StoRow mk lo hi ls H v rs S B) {j : Nat} (hj : j < S.length) :
    aindexAddr Try.prog ySs v (VI j) = some (elemS v 3 j) ∧ alen Try.prog H ySs v = some (VI S.length) ∧
    (afieldAddr Try.prog yS (elemS v 3 j) 0 = some (fieldOf (elemS v 3 j) 0) ∧ aload Try.prog iT H (fieldOf (elemS v 3 j) 0) = some rs[j]!.1) ∧
    (afieldAddr Try.prog yS (elemS v 3 j) 1 = some (fieldOf (elemS v 3 j) 1) ∧ aload Try.prog iT H (fieldOf (elemS v 3 j) 1) = some rs[j]!.2.1) ∧
    (afieldAddr Try.prog yS (elemS v 3 j) 2 = some (fieldOf (elemS v 3 j) 2) ∧ aload Try.prog iT H (fieldOf (elemS v 3 j) 2) = some rs[j]!.2.2) := by
  have hr := h.o.row
  have hn := h.n
  have hat : (rs.map Sto3)[j]? = some (Sto3 rs[j]!) := by rw [List.getElem?_map, List.getElem?_eq_getElem (by omega), getElem!_pos rs j (by omega)]; rfl
  refine ⟨hr.addr unYs szSt (by omega) (by rw [List.length_map]; omega), ?_, ⟨hr.faddr foY0 (by decide) (by rw [List.length_map]; omega), hr.fload agIs1 hat rfl⟩, ⟨hr.faddr foY1 (by decide) (by rw [List.length_map]; omega), hr.fload agIs1 hat rfl⟩, ⟨hr.faddr foY2 (by decide) (by rw [List.length_map]; omega), hr.fload agIs1 hat rfl⟩⟩
  have := hr.alen unYs
  rwa [List.length_map, hn] at this
theorem sto_len {mk lo hi : Int} {ls : List Lk} {H : Heap} {v : Value} {rs : List V3} {S : List (List Int)} {B : Nat} (h : StoRow mk lo hi ls H v rs S B) : alen Try.prog H ySs v = some (VI S.length) := by
  have := h.o.row.alen unYs
  rwa [List.length_map, h.n] at this
set_option maxHeartbeats 16000000 in
set_option maxRecDepth 100000 in
theorem ordersR_spec {B : Nat} {H : Heap} {mk lo hh : Int} {sv : Value} {ls : List Lk} (hB : B ≤ H.n) (hr : RowS 4 H sv (ls.map Lkl)) :
    CallB Try.prog B 23 [Chv mk lo hh sv] H (fun v H' => (∃ q ws, v = .tuple #[q, VI (chkC mk lo hh ls)] ∧ OwnQ H' q ws (if chkC mk lo hh ls = 0 then ordersL mk lo ls else []) H.n) ∧ Keep H H') := by
  refine CV.enter callees false rfl Try.func23 rfl (by kernel_rfl) (Nat.le_of_ble_eq_true rfl) hB ?_
  repeat' first
    | refine CO.cons rfl ?_
    | refine CV.seq ?_
    | refine CV.region callees ?_
    | fail
  refine ⟨(by simp only [notTuple]), ?_⟩
  rw [boxCh hr.cells.1]
  generalize hs0 : Heap.new H _ = H0
  have hg0 := new_get hs0
  have k0 := new_keep hs0
  have n0 := new_n hs0
  obtain ⟨b0, hbn0⟩ : ∃ b, Heap.n H = b := ⟨_, rfl⟩
  rw [hbn0] at hg0 n0 ⊢
  repeat' first
    | refine CO.cons rfl ?_
    | refine CO.nil ?_
    | refine CV.seq ?_
    | refine CV.region callees ?_
    | (refine ⟨_, ldCh hg0, ?_⟩)
    | fail
  refine (checkChainR_spec (by omega) (hr.keep k0)).mono ?_
  rintro v H2 ⟨rfl, k2⟩
  have l2 := k2.1
  by_cases hc : chkC mk lo hh ls = 0
  rotate_left
  · repeat' first
      | refine CO.cons rfl ?_
      | refine CO.nil ?_
      | refine CV.seq ?_
      | refine CV.region callees ?_
      | refine CV.cond ?_
      | refine CV.ret ?_
      | (refine ⟨fun _ => ?_, fun _ => ?_⟩ <;> first | (exfalso; omega) | skip)
      | fail
    rw [if_neg hc]
    exact ⟨rfl, ⟨nilS, [], rfl, OwnQ.nil⟩, k0.trans k2⟩
  rw [if_pos hc, hc]
  have hk := chOk_of hc
  have hls := hk.ok
  have hlen := orders_len (mk := mk) (lo := lo) hls.n
  have hol : ∀ o ∈ ordersL mk lo ls, o.length ≤ 7 := fun o ho => by have := (orders_mem.1 ho).1; have := hls.n; omega
  have hc2 := (k2.2 b0 (by omega)).trans hg0
  repeat' first
    | refine CO.cons rfl ?_
    | refine CO.nil ?_
    | refine CV.seq ?_
    | refine CV.region callees ?_
    | refine CV.cond ?_
    | refine CV.skip ?_
    | (refine ⟨_, ldCh hc2, ?_⟩)
    | (refine ⟨fun _ => ?_, fun _ => ?_⟩ <;> first | (exfalso; omega) | skip)
    | fail
  refine (storiesR_spec (by omega) ((hr.keep k0).keep k2) hls hk.l0 hk.l1 hk.h1).mono ?_
  rintro v H3 ⟨⟨rs, hst⟩, k3⟩
  have l3 := k3.1
  obtain ⟨n3, hn3⟩ : ∃ n, H3.n = n := ⟨_, rfl⟩
  generalize ordersL mk lo ls = S at *
  repeat' first
    | refine CO.cons rfl ?_
    | refine CO.nil ?_
    | refine CV.seq ?_
    | refine CV.region callees ?_
    | refine CV.block ?_
    | fail
  refine CV.loopc ?_
  refine WCv.rounds callees false (α := Nat × Value × List Value) (fun (i, q, ws) => [(5, q), (6, v), (7, VI i)]) (fun (i, q, ws) Hz => i ≤ S.length ∧ OwnQ Hz q ws (S.take i) n3 ∧ Keep H3 Hz) (fun (i, q, ws) => S.length - i) (0, nilS, []) (by repeat' first | exact trivial | refine ⟨rfl, ?_⟩ | refine ⟨slot_int (by (try simp only [Int.toNat_natCast]); omega), ?_⟩) ?_ ?_
  · exact ⟨by omega, OwnQ.nil, Keep.refl _⟩
  rintro ⟨i, q, ws⟩ Hx ⟨hi, hq, kx⟩ hBx
  have lx := kx.1
  have hsx := hst.keep kx
  by_cases hi2 : i < S.length
  · obtain ⟨a1, a2, ⟨a3, a4⟩, _⟩ := sto_at hsx hi2
    have hin := hol S[i]! (by rw [getElem!_pos S i hi2]; exact List.getElem_mem _)
    have hro := (hsx.i i hi2).1
    have htk : S.take (i + 1) = S.take i ++ [S[i]!] := one_at hi2
    have a4N : aload Try.prog iT (Hx.new (.cells [] 3 2)) (fieldOf (elemS v 3 i) 0) = some rs[i]!.1 := (sto_at (hsx.keep (Keep.new _ _)) hi2).2.2.1.2
    repeat' first
      | refine CO.cons rfl ?_
      | refine CO.nil ?_
      | refine CV.seq ?_
      | refine CV.region callees ?_
      | refine CV.cond ?_
      | refine CV.block ?_
      | refine CV.skip ?_
      | (refine ⟨_, a2, ?_⟩)
      | (refine ⟨_, _, build_none un22 one3, ?_⟩)
      | (refine ⟨_, a1, ?_⟩)
      | (refine ⟨_, a3, ?_⟩)
      | (refine ⟨_, a4N, ?_⟩)
      | (refine ⟨fun _ => ?_, fun _ => ?_⟩ <;> first | (exfalso; omega) | skip)
      | fail
    refine copy_ask un22 one3 (by omega) (Own.row hro) (by omega) (by rw [List.length_map]; omega) ?_
    intro w H4 hw k4
    have l4 := k4.1
    repeat' first
      | refine CO.cons rfl ?_
      | (refine ⟨_, _, build_one unG oneN (Row.oneC hw.row).1, ?_⟩)
      | fail
    refine (hq.keep k4).push (g := S[i]!) (Own.lower hw (by omega)) (by omega) (by omega) (by rw [List.length_take]; omega) ?_
    intro r H5 hq5 kb5 hf5
    have hqa : ∀ c, blkOf q = some c → n3 ≤ c := fun c hc => (hq.o.lt hc).1
    repeat' first
      | refine CO.cons rfl ?_
      | refine CO.nil ?_
      | refine CV.region callees ?_
      | refine ⟨(⟨by omega, by omega⟩ : inI64 _), ?_⟩
      | fail
    refine ⟨(i + 1, r, ws ++ [w]), (by repeat' first | exact trivial | refine ⟨rfl, ?_⟩ | refine ⟨slot_int (by (try simp only [Int.toNat_natCast]); omega), ?_⟩), (by (try dsimp only); omega), ?_⟩
    exact ⟨by omega, by rw [htk]; exact hq5, kb5.keep (kx.trans k4) fun c hc => by have := hqa c hc; omega⟩
  obtain rfl : i = S.length := by omega
  rw [List.take_length] at hq
  repeat' first
    | refine CO.cons rfl ?_
    | refine CO.nil ?_
    | refine CV.seq ?_
    | refine CV.region callees ?_
    | refine CV.cond ?_
    | refine CV.exit ?_
    | refine CV.ret ?_
    | (refine ⟨_, sto_len hsx, ?_⟩)
    | (refine ⟨fun _ => ?_, fun _ => ?_⟩ <;> first | (exfalso; omega) | skip)
    | fail
  exact ⟨by simp only [List.all_cons, List.all_nil, hq.o.notTuple]; rfl, ⟨q, ws, rfl, ⟨Own.lower hq.o (by omega), hq.len, fun j hj => Own.lower (hq.i j hj) (by omega)⟩⟩, ((k0.trans k2).trans k3).trans kx⟩
end Go.Proofs.Ytijimplcjaeneaa
