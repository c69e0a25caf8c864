/- ChartDraws: its function answers true. -/
import Derived.Test.YteocbhefhobehaaDoorL2
import Derived.Test.YteocbhefhobehaaDoorY9
import Derived.Test.YteocbhefhobehaaDoorY6
import Derived.Test.YteocbhefhobehaaDoorY8
set_option linter.unusedVariables false
set_option linter.unusedSimpArgs false
namespace Go.Proofs.YteocbhefhobehaaDoor
open Go.AI
set_option maxRecDepth 100000 in
theorem blot_nil_spec {B : Nat} {H : Heap} {a h y : Int} (hB : B ≤ H.n) :
    CallB Tryd.prog B 53 [VS [], .int .i64 a, .int .i64 h, .int .u8 y] H (fun r H' => r = VS [] ∧ H' = H) := by
  have hl : ([] : List Int).length = 0 := rfl
  refine CV.enter callees false rfl Tryd.func53 rfl ok53 (Nat.le_of_ble_eq_true rfl) hB ?_
  repeat' first
    | refine CO.cons rfl ?_
    | refine CO.nil ?_
    | refine CV.seq ?_
    | refine CV.region callees ?_
    | refine CV.cond ?_
    | refine CV.block ?_
    | refine CV.skip ?_
    | refine CV.exit ?_
    | refine CV.ret ?_
    | refine CV.scope ?_
    | refine CV.draw callees rfl ?_
    | refine CH.cons rfl ?_
    | refine CH.nil ?_
    | refine CO.consG rfl ?_
    | refine CH.consG rfl ?_
    | refine CG.cons rfl ?_
    | refine CG.nil ?_
    | refine CG.consG rfl ?_
    | refine ⟨(rfl : plain _ = true), ?_⟩
    | refine ⟨(rfl : nilOk _ = some _), ?_⟩
    | refine ⟨_, ints_len (by assumption), ?_⟩
    | refine ⟨_, ints_addr (by assumption) (by omega) (by omega), ?_⟩
    | refine ⟨_, ints_load (by assumption) (by omega) (by omega), ?_⟩
    | refine ⟨(⟨by omega, by omega⟩ : inI64 _), ?_⟩
    | refine ⟨_, fun tm ha => step1_max rfl (ev_tmp ha rfl) (ev_tmp ha rfl), ?_⟩
    | refine ⟨_, fun tm ha => step1_min rfl (ev_tmp ha rfl) (ev_tmp ha rfl), ?_⟩
    | refine ⟨_, str_len un9, ?_⟩
    | (refine ⟨fun _ => ?_, fun _ => ?_⟩ <;> first | (exfalso; omega) | skip)
    | fail
  exact ⟨rfl, rfl, rfl⟩
theorem blot_any {B : Nat} {H : Heap} {l : List Int} {a h y : Int} (hB : B ≤ H.n) (hb : Bytes l) (h2 : l = [] ∨ 2 ≤ l.length) (hn : l.length < 100000) (hy : 0 ≤ y ∧ y < 256) :
    CallB Tryd.prog B 53 [VS l, .int .i64 a, .int .i64 h, .int .u8 y] H (fun r H' => (∃ t, r = VS t ∧ Bytes t) ∧ Keep H H') := by
  rcases h2 with rfl | h2
  · refine (blot_nil_spec hB).mono ?_
    rintro r H' ⟨rfl, rfl⟩
    exact ⟨⟨_, rfl, hb⟩, Keep.refl _⟩
  · refine (blot_spec hB hb h2 hn hy).mono ?_
    rintro r H' ⟨⟨t, rfl, ht, _⟩, k⟩
    exact ⟨⟨_, rfl, ht⟩, k⟩
theorem build_strs {H : Heap} {a b : List Int} : abuildSlice Tryd.prog H 50 2 [(0, VS a), (1, VS b)] = some (.slice (some ⟨H.n, 0, none⟩) 2 0, H.new (.cells [VS a, VS b] 9 2), H.n) := by
  obtain ⟨info, hi, hz, hs, hc', hsc, hby⟩ := oneBB_spec one9
  simp only [abuildSlice, un50, hi, hz, hs, hc']
  rw [if_pos ⟨by omega, rfl, by simp [scalar], by omega⟩]
  have hz3 : zeros #[(Value.string .empty)] (2 * 1) = [.string .empty, .string .empty] := rfl
  rw [hz3]
  have ha : oneC (VS a) = true := rfl
  have hb : oneC (VS b) = true := rfl
  simp only [fillL, oneC_cells ha, oneC_cells hb, oneC_notTuple ha, oneC_notTuple hb]
  rfl
theorem strs_ask2 {H : Heap} {K : Value → Heap → Prop} {B B0 : Nat} {x : Value} {y z : List Int} {l : List (List Int)} (hx : Own 9 H x (l.map VS) B0) (hB0 : B0 ≤ H.n) (hB : B ≤ B0) (hn : l.length < 100000)
    (hk : ∀ r H', Own 9 H' r ((l ++ [y, z]).map VS) B0 → (∀ H0, Keep H0 H → H0.n ≤ B0 → Keep H0 H') → K r H') :
    ∃ v H' b, aappend Tryd.prog (H.new (.cells [VS y, VS z] 9 2)) #[50, 50] x (.slice (some ⟨H.n, 0, none⟩) 2 0) = some (v, H', b) ∧ B ≤ b ∧ K v H' := by
  have hy : (H.new (.cells [VS y, VS z] 9 2)).get H.n = some (.cells [VS y, VS z] 9 2) := Heap.get_new_eq _ _
  rcases hx with ⟨rfl, hnil⟩ | ⟨b, rfl, h2, h3, h4⟩
  · have hln : l = [] := by simpa using hnil
    subst hln
    refine ⟨_, _, _, append_nil un50 one9 (by omega) (news := [VS y, VS z]) hy (by simp) (by simp), ?_, hk _ _ (.inr ⟨_, rfl, ?_, ?_, Heap.get_new_eq _ _⟩) fun H0 k _ => k.trans ((Keep.new _ _).trans (Keep.new _ _))⟩
    · show B ≤ H.n + 1; omega
    · show B0 ≤ H.n + 1; omega
    · show H.n + 1 < H.n + 1 + 1; omega
  · have hx' : (H.new (.cells [VS y, VS z] 9 2)).get b = some (.cells (l.map VS) 9 2) := by rw [Heap.get_new_ne _ _ (by omega)]; exact h4
    refine ⟨_, _, _, append_row un50 one9 (by omega) (news := [VS y, VS z]) hx' hy (by simp) (by simp; omega), Nat.le_trans hB h2, hk _ _ (.inr ⟨H.n + 1, ?_, ?_, ?_, ?_⟩) fun H0 k hk => (((k.trans (Keep.new _ _)).set _ (by omega)).trans (Keep.new _ _))⟩
    · simp
    · omega
    · show H.n + 1 < H.n + 1 + 1; omega
    · show (((H.new (.cells [VS y, VS z] 9 2)).set b .gone).new _).get (H.n + 1) = _
      rw [List.map_append]
      exact Heap.get_new_eq _ _
theorem readR_same {H H2 : Heap} {l : List Int} {r s : Value} {H1 H3 : Heap} (h : ReadR H l r H1) (h2 : ReadR H2 l s H3) :
    ∃ u v e zs, r = .tuple #[u, .int .i64 e] ∧ s = .tuple #[v, .int .i64 e] ∧ Ints H1 u zs ∧ Ints H3 v zs ∧ zs.length ≤ 9 := by
  unfold ReadR at h h2
  by_cases hl : 400 < l.length
  · rw [if_pos hl] at h h2
    exact ⟨_, _, _, [], h, h2, .inl ⟨rfl, rfl⟩, .inl ⟨rfl, rfl⟩, by simp⟩
  · rw [if_neg hl] at h h2
    rcases h with ⟨xs, u, hc, hd, rfl, hu⟩ | ⟨hno, rfl⟩
    · rcases h2 with ⟨ys, v, hc2, hd2, rfl, hv⟩ | ⟨hno, rfl⟩
      · have := drw_inj hc hc2 (hd.trans hd2.symm)
        subst this
        exact ⟨_, _, _, xs, rfl, rfl, hu.row, hv.row, (check_len hc).2⟩
      · exact absurd hd (hno xs hc)
    · rcases h2 with ⟨ys, v, hc2, hd2, rfl, hv⟩ | ⟨_, rfl⟩
      · exact absurd hd2 (hno ys hc2)
      · exact ⟨_, _, _, [], rfl, rfl, .inl ⟨rfl, rfl⟩, .inl ⟨rfl, rfl⟩, by simp⟩
theorem readR_one {H : Heap} {l : List Int} {r : Value} {H1 : Heap} (h : ReadR H l r H1) : ∃ u e, r = .tuple #[u, .int .i64 e] := by
  unfold ReadR at h
  split at h
  · exact ⟨_, _, h⟩
  · rcases h with ⟨xs, u, hc, hd, rfl, hu⟩ | ⟨hno, rfl⟩
    · exact ⟨_, _, rfl⟩
    · exact ⟨_, _, rfl⟩
theorem readR_keep {H : Heap} {l : List Int} {r : Value} {H1 H2 : Heap} (h : ReadR H l r H1) (k : Keep H1 H2) : ReadR H l r H2 := by
  unfold ReadR at h ⊢
  split
  · rename_i hl; rw [if_pos hl] at h; exact h
  · rename_i hl
    rw [if_neg hl] at h
    rcases h with ⟨xs, u, hc, hd, hr, hu⟩ | h
    · exact .inl ⟨xs, u, hc, hd, hr, hu.keep k⟩
    · exact .inr h
def drawn (l : List Int) : List Int := if check l = 0 then drw l else []
theorem drawn_ok (l : List Int) : Bytes (drawn l) ∧ (drawn l = [] ∨ 2 ≤ (drawn l).length) ∧ (drawn l).length < 100000 := by
  unfold drawn
  by_cases hc : check l = 0
  · rw [if_pos hc]
    have hlx := check_len hc
    obtain ⟨d, hd, hdrw, _⟩ := drw_rows l
    have hd9 : d ≤ 9 := by have := deepN_le l (bk l); have := bk_le9 hc; omega
    have hll := drwN_len l (d + 1)
    have hmul : (d + 1) * (2 * l.length - 1 + 1) ≤ 10 * 18 := Nat.mul_le_mul (by omega) (by omega)
    have hmul2 : 1 * 2 ≤ (d + 1) * (2 * l.length - 1 + 1) := Nat.mul_le_mul (by omega) (by omega)
    rw [← hdrw] at hll
    exact ⟨drw_bytes l, .inr (by omega), by omega⟩
  · rw [if_neg hc]
    exact ⟨bNil, .inl rfl, by simp⟩

set_option maxHeartbeats 8000000 in
set_option maxRecDepth 100000 in
theorem chartDraws_spec {v w : Value} {H : Heap} {xs zs l : List Int} {a h y : Int} (hBase : Base H) (hv : Ints H v xs) (hx : xs.length ≤ 9223372036854775807) (_ : ∀ x ∈ xs, inI64 x)
    (hbl : Bytes l) (hw : Ints H w zs) (hz : zs.length ≤ 9223372036854775807) (_ : ∀ x ∈ zs, inI64 x) (_ : inI64 a) (_ : inI64 h) (hy : 0 ≤ y ∧ y < 256) :
    CallB Tryd.prog H.n 7 [v, VS l, w, .int .i64 a, .int .i64 h, .int .u8 y] H (fun r _ => r = .bool true) := by
  have hB : H.n ≤ H.n := Nat.le_refl _
  refine CV.enter callees false rfl Tryd.func7 rfl ok7 (Nat.le_of_ble_eq_true rfl) hB ?_
  repeat' first
    | refine CO.cons rfl ?_
    | refine CO.nil ?_
    | refine CV.seq ?_
    | refine CV.region callees ?_
    | refine CV.cond ?_
    | refine CV.block ?_
    | refine CV.skip ?_
    | refine CV.exit ?_
    | refine CV.ret ?_
    | refine CV.scope ?_
    | refine CV.draw callees rfl ?_
    | refine CH.cons rfl ?_
    | refine CH.nil ?_
    | refine CO.consG rfl ?_
    | refine CH.consG rfl ?_
    | refine CG.cons rfl ?_
    | refine CG.nil ?_
    | refine CG.consG rfl ?_
    | refine ⟨(rfl : plain _ = true), ?_⟩
    | refine ⟨(rfl : nilOk _ = some _), ?_⟩
    | refine ⟨_, ints_len (by assumption), ?_⟩
    | refine ⟨_, ints_addr (by assumption) (by omega) (by omega), ?_⟩
    | refine ⟨_, ints_load (by assumption) (by omega) (by omega), ?_⟩
    | refine ⟨(⟨by omega, by omega⟩ : inI64 _), ?_⟩
    | refine ⟨_, fun tm ha => step1_max rfl (ev_tmp ha rfl) (ev_tmp ha rfl), ?_⟩
    | refine ⟨_, fun tm ha => step1_min rfl (ev_tmp ha rfl) (ev_tmp ha rfl), ?_⟩
    | (refine ⟨fun _ => ?_, fun _ => ?_⟩ <;> first | (exfalso; omega) | skip)
    | fail
  refine (long_spec hB hv).mono ?_
  rintro r H1 ⟨rfl, rfl⟩
  by_cases h40 : 40 < xs.length
  · rw [decide_eq_true h40]
    repeat' first
      | refine CO.cons rfl ?_
      | refine CO.nil ?_
      | refine CV.seq ?_
      | refine CV.region callees ?_
      | refine CV.cond ?_
      | refine CV.block ?_
      | refine CV.skip ?_
      | refine CV.exit ?_
      | refine CV.ret ?_
      | refine CV.scope ?_
      | refine CV.draw callees rfl ?_
      | refine CH.cons rfl ?_
      | refine CH.nil ?_
      | refine CO.consG rfl ?_
      | refine CH.consG rfl ?_
      | refine CG.cons rfl ?_
      | refine CG.nil ?_
      | refine CG.consG rfl ?_
      | refine ⟨(rfl : plain _ = true), ?_⟩
      | refine ⟨(rfl : nilOk _ = some _), ?_⟩
      | refine ⟨_, ints_len (by assumption), ?_⟩
      | refine ⟨_, ints_addr (by assumption) (by omega) (by omega), ?_⟩
      | refine ⟨_, ints_load (by assumption) (by omega) (by omega), ?_⟩
      | refine ⟨(⟨by omega, by omega⟩ : inI64 _), ?_⟩
      | refine ⟨_, fun tm ha => step1_max rfl (ev_tmp ha rfl) (ev_tmp ha rfl), ?_⟩
      | refine ⟨_, fun tm ha => step1_min rfl (ev_tmp ha rfl) (ev_tmp ha rfl), ?_⟩
      | refine CallB.known rfl hBase hB ?_
      | (refine ⟨fun _ => ?_, fun _ => ?_⟩ <;> first | (exfalso; omega) | skip)
      | fail
    exact ⟨rfl, rfl⟩
  rw [decide_eq_false h40]
  repeat' first
    | refine CO.cons rfl ?_
    | refine CO.nil ?_
    | refine CV.seq ?_
    | refine CV.region callees ?_
    | refine CV.cond ?_
    | refine CV.block ?_
    | refine CV.skip ?_
    | refine CV.exit ?_
    | refine CV.ret ?_
    | refine CV.scope ?_
    | refine CV.draw callees rfl ?_
    | refine CH.cons rfl ?_
    | refine CH.nil ?_
    | refine CO.consG rfl ?_
    | refine CH.consG rfl ?_
    | refine CG.cons rfl ?_
    | refine CG.nil ?_
    | refine CG.consG rfl ?_
    | refine ⟨(rfl : plain _ = true), ?_⟩
    | refine ⟨(rfl : nilOk _ = some _), ?_⟩
    | refine ⟨_, ints_len (by assumption), ?_⟩
    | refine ⟨_, ints_addr (by assumption) (by omega) (by omega), ?_⟩
    | refine ⟨_, ints_load (by assumption) (by omega) (by omega), ?_⟩
    | refine ⟨(⟨by omega, by omega⟩ : inI64 _), ?_⟩
    | refine ⟨_, fun tm ha => step1_max rfl (ev_tmp ha rfl) (ev_tmp ha rfl), ?_⟩
    | refine ⟨_, fun tm ha => step1_min rfl (ev_tmp ha rfl) (ev_tmp ha rfl), ?_⟩
    | (refine ⟨fun _ => ?_, fun _ => ?_⟩ <;> first | (exfalso; omega) | skip)
    | fail
  refine (boxOf_spec hB hw hz).mono ?_
  rintro r H3 ⟨⟨b, rfl, hb, hbx⟩, k3⟩
  have kk := k3
  replace hv := hv.keep k3
  have hB := k3.1
  repeat' first
    | refine CO.cons rfl ?_
    | refine CO.nil ?_
    | refine CV.seq ?_
    | refine CV.region callees ?_
    | refine CV.cond ?_
    | refine CV.block ?_
    | refine CV.skip ?_
    | refine CV.exit ?_
    | refine CV.ret ?_
    | refine CV.scope ?_
    | refine CV.draw callees rfl ?_
    | refine CH.cons rfl ?_
    | refine CH.nil ?_
    | refine CO.consG rfl ?_
    | refine CH.consG rfl ?_
    | refine CG.cons rfl ?_
    | refine CG.nil ?_
    | refine CG.consG rfl ?_
    | refine ⟨(rfl : plain _ = true), ?_⟩
    | refine ⟨(rfl : nilOk _ = some _), ?_⟩
    | refine ⟨_, ints_len (by assumption), ?_⟩
    | refine ⟨_, ints_addr (by assumption) (by omega) (by omega), ?_⟩
    | refine ⟨_, ints_load (by assumption) (by omega) (by omega), ?_⟩
    | refine ⟨(⟨by omega, by omega⟩ : inI64 _), ?_⟩
    | refine ⟨_, fun tm ha => step1_max rfl (ev_tmp ha rfl) (ev_tmp ha rfl), ?_⟩
    | refine ⟨_, fun tm ha => step1_min rfl (ev_tmp ha rfl) (ev_tmp ha rfl), ?_⟩
    | (refine ⟨fun _ => ?_, fun _ => ?_⟩ <;> first | (exfalso; omega) | skip)
    | fail
  refine (any_spec hb hB hbx (by omega) (by omega) (by omega)).mono ?_
  rintro r H4 ⟨⟨m, rfl, hm1, hm9⟩, hb4, k4⟩
  replace hv := hv.box k4 hbx
  replace kk := k4.keep kk hb
  replace hB := Nat.le_trans hB k4.1
  repeat' first
    | refine CO.cons rfl ?_
    | refine CO.nil ?_
    | refine CV.seq ?_
    | refine CV.region callees ?_
    | refine CV.cond ?_
    | refine CV.block ?_
    | refine CV.skip ?_
    | refine CV.exit ?_
    | refine CV.ret ?_
    | refine CV.scope ?_
    | refine CV.draw callees rfl ?_
    | refine CH.cons rfl ?_
    | refine CH.nil ?_
    | refine CO.consG rfl ?_
    | refine CH.consG rfl ?_
    | refine CG.cons rfl ?_
    | refine CG.nil ?_
    | refine CG.consG rfl ?_
    | refine ⟨(rfl : plain _ = true), ?_⟩
    | refine ⟨(rfl : nilOk _ = some _), ?_⟩
    | refine ⟨_, ints_len (by assumption), ?_⟩
    | refine ⟨_, ints_addr (by assumption) (by omega) (by omega), ?_⟩
    | refine ⟨_, ints_load (by assumption) (by omega) (by omega), ?_⟩
    | refine ⟨(⟨by omega, by omega⟩ : inI64 _), ?_⟩
    | refine ⟨_, fun tm ha => step1_max rfl (ev_tmp ha rfl) (ev_tmp ha rfl), ?_⟩
    | refine ⟨_, fun tm ha => step1_min rfl (ev_tmp ha rfl) (ev_tmp ha rfl), ?_⟩
    | (refine ⟨fun _ => ?_, fun _ => ?_⟩ <;> first | (exfalso; omega) | skip)
    | fail
  refine (partitionOf_spec hb hB hb4 hm1 hm9).mono ?_
  rintro o H5 ⟨⟨os, co, lo, hoo⟩, hb5, k5⟩
  have ho : Ints H5 o os := hoo.row
  replace hv := hv.box k5 hb4
  replace kk := k5.keep kk hb
  replace hB := Nat.le_trans hB k5.1
  repeat' first
    | refine CO.cons rfl ?_
    | refine CO.nil ?_
    | refine CV.seq ?_
    | refine CV.region callees ?_
    | refine CV.cond ?_
    | refine CV.block ?_
    | refine CV.skip ?_
    | refine CV.exit ?_
    | refine CV.ret ?_
    | refine CV.scope ?_
    | refine CV.draw callees rfl ?_
    | refine CH.cons rfl ?_
    | refine CH.nil ?_
    | refine CO.consG rfl ?_
    | refine CH.consG rfl ?_
    | refine CG.cons rfl ?_
    | refine CG.nil ?_
    | refine CG.consG rfl ?_
    | refine ⟨(rfl : plain _ = true), ?_⟩
    | refine ⟨(rfl : nilOk _ = some _), ?_⟩
    | refine ⟨_, ints_len (by assumption), ?_⟩
    | refine ⟨_, ints_addr (by assumption) (by omega) (by omega), ?_⟩
    | refine ⟨_, ints_load (by assumption) (by omega) (by omega), ?_⟩
    | refine ⟨(⟨by omega, by omega⟩ : inI64 _), ?_⟩
    | refine ⟨_, fun tm ha => step1_max rfl (ev_tmp ha rfl) (ev_tmp ha rfl), ?_⟩
    | refine ⟨_, fun tm ha => step1_min rfl (ev_tmp ha rfl) (ev_tmp ha rfl), ?_⟩
    | refine ⟨_, _, build_pair (row_one hv) (row_one ho), ?_⟩
    | (refine ⟨fun _ => ?_, fun _ => ?_⟩ <;> first | (exfalso; omega) | skip)
    | fail
  have k6 := Keep.new H5 (.cells [v, o] 22 2)
  have hR : Row (H5.new (.cells [v, o] 22 2)) _ _ := row_new (H := H5) (l := [v, o]) (e := 22) (n := 2) rfl
  replace hv := hv.keep k6
  replace ho := ho.keep k6
  replace hB := Nat.le_trans hB k6.1
  replace kk := kk.trans k6
  generalize hRv : Value.slice (some ⟨H5.n, 0, none⟩) 2 0 = R at hR ⊢
  generalize H5.new (.cells [v, o] 22 2) = H6 at *
  clear k6
  have hLR : Lists H6 R [v, o] [xs, os] 2 := ⟨hR, rfl, fun i hi => by
    have : i = 0 ∨ i = 1 := by omega
    rcases this with rfl | rfl
    · exact hv
    · exact ho⟩
  have hl9 : ∀ i : Nat, i < 2 → ([xs, os][i]!).length ≤ 40 := fun i hi => by
    have h9 := (check_len co).2
    have : i = 0 ∨ i = 1 := by omega
    rcases this with rfl | rfl
    · show xs.length ≤ 40; omega
    · show os.length ≤ 40; omega
  generalize [v, o] = va at hLR
  generalize [xs, os] = la at hLR hl9
  clear hR hv ho
  repeat' first
    | refine CO.cons rfl ?_
    | refine CO.nil ?_
    | refine CV.seq ?_
    | refine CV.region callees ?_
    | refine CV.cond ?_
    | refine CV.block ?_
    | refine CV.skip ?_
    | refine CV.exit ?_
    | refine CV.ret ?_
    | refine CV.scope ?_
    | refine CV.draw callees rfl ?_
    | refine CH.cons rfl ?_
    | refine CH.nil ?_
    | refine CO.consG rfl ?_
    | refine CH.consG rfl ?_
    | refine CG.cons rfl ?_
    | refine CG.nil ?_
    | refine CG.consG rfl ?_
    | refine ⟨(rfl : plain _ = true), ?_⟩
    | refine ⟨(rfl : nilOk _ = some _), ?_⟩
    | refine ⟨_, ints_len (by assumption), ?_⟩
    | refine ⟨_, ints_addr (by assumption) (by omega) (by omega), ?_⟩
    | refine ⟨_, ints_load (by assumption) (by omega) (by omega), ?_⟩
    | refine ⟨(⟨by omega, by omega⟩ : inI64 _), ?_⟩
    | refine ⟨_, fun tm ha => step1_max rfl (ev_tmp ha rfl) (ev_tmp ha rfl), ?_⟩
    | refine ⟨_, fun tm ha => step1_min rfl (ev_tmp ha rfl) (ev_tmp ha rfl), ?_⟩
    | refine ⟨_, _, build_one un50 one9 rfl, ?_⟩
    | (refine ⟨fun _ => ?_, fun _ => ?_⟩ <;> first | (exfalso; omega) | skip)
    | fail
  have hT : Own 9 (H6.new (.cells [VS l] 9 2)) (.slice (some ⟨H6.n, 0, none⟩) 1 0) ([l].map VS) H6.n := .inr ⟨H6.n, rfl, Nat.le_refl _, Nat.lt_succ_self _, Heap.get_new_eq _ _⟩
  have k7 : Keep H6 (H6.new (.cells [VS l] 9 2)) := Keep.new _ _
  generalize Value.slice (some ⟨H6.n, 0, none⟩) 1 0 = T at hT ⊢
  generalize H6.new (.cells [VS l] 9 2) = H7 at hT k7 ⊢
  repeat' first
    | refine CO.cons rfl ?_
    | refine CO.nil ?_
    | refine CV.seq ?_
    | refine CV.region callees ?_
    | refine CV.cond ?_
    | refine CV.block ?_
    | refine CV.skip ?_
    | refine CV.exit ?_
    | refine CV.ret ?_
    | refine CV.scope ?_
    | refine CV.draw callees rfl ?_
    | refine CH.cons rfl ?_
    | refine CH.nil ?_
    | refine CO.consG rfl ?_
    | refine CH.consG rfl ?_
    | refine CG.cons rfl ?_
    | refine CG.nil ?_
    | refine CG.consG rfl ?_
    | refine ⟨(rfl : plain _ = true), ?_⟩
    | refine ⟨(rfl : nilOk _ = some _), ?_⟩
    | refine ⟨_, ints_len (by assumption), ?_⟩
    | refine ⟨_, ints_addr (by assumption) (by omega) (by omega), ?_⟩
    | refine ⟨_, ints_load (by assumption) (by omega) (by omega), ?_⟩
    | refine ⟨(⟨by omega, by omega⟩ : inI64 _), ?_⟩
    | refine ⟨_, fun tm ha => step1_max rfl (ev_tmp ha rfl) (ev_tmp ha rfl), ?_⟩
    | refine ⟨_, fun tm ha => step1_min rfl (ev_tmp ha rfl) (ev_tmp ha rfl), ?_⟩
    | (refine ⟨fun _ => ?_, fun _ => ?_⟩ <;> first | (exfalso; omega) | skip)
    | fail
  refine CV.loopc ?_
  refine WCv.rounds callees false (α := Nat × Value × List (List Int)) (fun (i, T, ts) => [(3, .int .i64 a), (4, .int .i64 h), (5, .int .u8 y), (15, R), (16, T), (17, .int .i64 i)]) (fun (i, T, ts) Hz => i ≤ 2 ∧ ts.length = 1 + 2 * i ∧ (∀ t ∈ ts, Bytes t) ∧ Keep H6 Hz ∧ Own 9 Hz T (ts.map VS) H6.n) (fun (i, T, ts) => 2 - i) (0, T, [l]) (by repeat' first | exact trivial | refine ⟨rfl, ?_⟩ | refine ⟨slot_int (by (try simp only [Int.toNat_natCast]); omega), ?_⟩) ?_ ?_
  · exact ⟨by omega, rfl, (fun t ht => by simp at ht; subst ht; exact hbl), k7, hT⟩
  rintro ⟨i, T, ts⟩ Hx ⟨hi, htl, htb, kx, hTx⟩ hBx
  have hRx := hLR.keep kx
  by_cases hi2 : i < 2
  · have ha := hRx.at' i (by omega)
    have hla := hl9 i hi2
    repeat' first
      | refine CO.cons rfl ?_
      | refine CO.nil ?_
      | refine CV.seq ?_
      | refine CV.region callees ?_
      | refine CV.cond ?_
      | refine CV.block ?_
      | refine CV.skip ?_
      | refine CV.exit ?_
      | refine CV.ret ?_
      | refine CV.scope ?_
      | refine CV.draw callees rfl ?_
      | refine CH.cons rfl ?_
      | refine CH.nil ?_
      | refine CO.consG rfl ?_
      | refine CH.consG rfl ?_
      | refine CG.cons rfl ?_
      | refine CG.nil ?_
      | refine CG.consG rfl ?_
      | refine ⟨(rfl : plain _ = true), ?_⟩
      | refine ⟨(rfl : nilOk _ = some _), ?_⟩
      | refine ⟨_, ints_len (by assumption), ?_⟩
      | refine ⟨_, ints_addr (by assumption) (by omega) (by omega), ?_⟩
      | refine ⟨_, ints_load (by assumption) (by omega) (by omega), ?_⟩
      | refine ⟨(⟨by omega, by omega⟩ : inI64 _), ?_⟩
      | refine ⟨_, fun tm ha => step1_max rfl (ev_tmp ha rfl) (ev_tmp ha rfl), ?_⟩
      | refine ⟨_, fun tm ha => step1_min rfl (ev_tmp ha rfl) (ev_tmp ha rfl), ?_⟩
      | refine ⟨_, hRx.alen, ?_⟩
      | refine ⟨_, hRx.addr (by omega) (by omega), ?_⟩
      | refine ⟨_, hRx.load (by omega) (by omega), ?_⟩
      | (refine ⟨fun _ => ?_, fun _ => ?_⟩ <;> first | (exfalso; omega) | skip)
      | fail
    rw [Int.toNat_natCast]
    generalize la[i]! = z at ha hla
    refine (levels_spec hBx ha).mono ?_
    rintro r H8 ⟨⟨u1, rfl, hu1⟩, k8⟩
    replace hBx := Nat.le_trans hBx k8.1
    replace hRx := hRx.keep k8
    replace ha := ha.keep k8
    replace kx := kx.trans k8
    replace hTx := hTx.keep k8
    repeat' first
      | refine CO.cons rfl ?_
      | refine CO.nil ?_
      | refine CV.seq ?_
      | refine CV.region callees ?_
      | refine CV.cond ?_
      | refine CV.block ?_
      | refine CV.skip ?_
      | refine CV.exit ?_
      | refine CV.ret ?_
      | refine CV.scope ?_
      | refine CV.draw callees rfl ?_
      | refine CH.cons rfl ?_
      | refine CH.nil ?_
      | refine CO.consG rfl ?_
      | refine CH.consG rfl ?_
      | refine CG.cons rfl ?_
      | refine CG.nil ?_
      | refine CG.consG rfl ?_
      | refine ⟨(rfl : plain _ = true), ?_⟩
      | refine ⟨(rfl : nilOk _ = some _), ?_⟩
      | refine ⟨_, ints_len (by assumption), ?_⟩
      | refine ⟨_, ints_addr (by assumption) (by omega) (by omega), ?_⟩
      | refine ⟨_, ints_load (by assumption) (by omega) (by omega), ?_⟩
      | refine ⟨(⟨by omega, by omega⟩ : inI64 _), ?_⟩
      | refine ⟨_, fun tm ha => step1_max rfl (ev_tmp ha rfl) (ev_tmp ha rfl), ?_⟩
      | refine ⟨_, fun tm ha => step1_min rfl (ev_tmp ha rfl) (ev_tmp ha rfl), ?_⟩
      | refine ⟨_, hRx.addr (by omega) (by omega), ?_⟩
      | refine ⟨_, hRx.load (by omega) (by omega), ?_⟩
      | (refine ⟨fun _ => ?_, fun _ => ?_⟩ <;> first | (exfalso; omega) | skip)
      | fail
    rw [Int.toNat_natCast]
    refine (refLevels_spec hBx ha).mono ?_
    rintro r H9 ⟨⟨u2, rfl, hu2⟩, k9⟩
    replace hBx := Nat.le_trans hBx k9.1
    replace hRx := hRx.keep k9
    replace ha := ha.keep k9
    replace kx := kx.trans k9
    replace hTx := hTx.keep k9
    replace hu1 := hu1.keep k9
    repeat' first
      | refine CO.cons rfl ?_
      | refine CO.nil ?_
      | refine CV.seq ?_
      | refine CV.region callees ?_
      | refine CV.cond ?_
      | refine CV.block ?_
      | refine CV.skip ?_
      | refine CV.exit ?_
      | refine CV.ret ?_
      | refine CV.scope ?_
      | refine CV.draw callees rfl ?_
      | refine CH.cons rfl ?_
      | refine CH.nil ?_
      | refine CO.consG rfl ?_
      | refine CH.consG rfl ?_
      | refine CG.cons rfl ?_
      | refine CG.nil ?_
      | refine CG.consG rfl ?_
      | refine ⟨(rfl : plain _ = true), ?_⟩
      | refine ⟨(rfl : nilOk _ = some _), ?_⟩
      | refine ⟨_, ints_len (by assumption), ?_⟩
      | refine ⟨_, ints_addr (by assumption) (by omega) (by omega), ?_⟩
      | refine ⟨_, ints_load (by assumption) (by omega) (by omega), ?_⟩
      | refine ⟨(⟨by omega, by omega⟩ : inI64 _), ?_⟩
      | refine ⟨_, fun tm ha => step1_max rfl (ev_tmp ha rfl) (ev_tmp ha rfl), ?_⟩
      | refine ⟨_, fun tm ha => step1_min rfl (ev_tmp ha rfl) (ev_tmp ha rfl), ?_⟩
      | refine ⟨_, hRx.addr (by omega) (by omega), ?_⟩
      | refine ⟨_, hRx.load (by omega) (by omega), ?_⟩
      | (refine ⟨fun _ => ?_, fun _ => ?_⟩ <;> first | (exfalso; omega) | skip)
      | fail
    rw [Int.toNat_natCast]
    refine (draw_spec hBx (hBase.keep (kk.trans kx)) ha).mono ?_
    rintro r Ha ⟨rfl, ka⟩
    replace hBx := Nat.le_trans hBx ka.1
    replace hRx := hRx.keep ka
    replace ha := ha.keep ka
    replace kx := kx.trans ka
    replace hTx := hTx.keep ka
    replace hu1 := hu1.keep ka
    replace hu2 := hu2.keep ka
    repeat' first
      | refine CO.cons rfl ?_
      | refine CO.nil ?_
      | refine CV.seq ?_
      | refine CV.region callees ?_
      | refine CV.cond ?_
      | refine CV.block ?_
      | refine CV.skip ?_
      | refine CV.exit ?_
      | refine CV.ret ?_
      | refine CV.scope ?_
      | refine CV.draw callees rfl ?_
      | refine CH.cons rfl ?_
      | refine CH.nil ?_
      | refine CO.consG rfl ?_
      | refine CH.consG rfl ?_
      | refine CG.cons rfl ?_
      | refine CG.nil ?_
      | refine CG.consG rfl ?_
      | refine ⟨(rfl : plain _ = true), ?_⟩
      | refine ⟨(rfl : nilOk _ = some _), ?_⟩
      | refine ⟨_, ints_len (by assumption), ?_⟩
      | refine ⟨_, ints_addr (by assumption) (by omega) (by omega), ?_⟩
      | refine ⟨_, ints_load (by assumption) (by omega) (by omega), ?_⟩
      | refine ⟨(⟨by omega, by omega⟩ : inI64 _), ?_⟩
      | refine ⟨_, fun tm ha => step1_max rfl (ev_tmp ha rfl) (ev_tmp ha rfl), ?_⟩
      | refine ⟨_, fun tm ha => step1_min rfl (ev_tmp ha rfl) (ev_tmp ha rfl), ?_⟩
      | refine ⟨_, hRx.addr (by omega) (by omega), ?_⟩
      | refine ⟨_, hRx.load (by omega) (by omega), ?_⟩
      | (refine ⟨fun _ => ?_, fun _ => ?_⟩ <;> first | (exfalso; omega) | skip)
      | fail
    rw [Int.toNat_natCast]
    refine (refDraw_spec hBx ha).mono ?_
    rintro r Hb ⟨rfl, kb⟩
    replace hBx := Nat.le_trans hBx kb.1
    replace hRx := hRx.keep kb
    replace ha := ha.keep kb
    replace kx := kx.trans kb
    replace hTx := hTx.keep kb
    replace hu1 := hu1.keep kb
    replace hu2 := hu2.keep kb
    have hlev : (if check z = 0 then levs z (bk z) else []).length < 1000000 := by
      split
      · rename_i hc
        have := bk_le9 hc
        rw [levs_length]; omega
      · simp
    have hcz : (if check z = 0 then drw z else []) = drawn z := rfl
    rw [hcz]
    repeat' first
      | refine CO.cons rfl ?_
      | refine CO.nil ?_
      | refine CV.seq ?_
      | refine CV.region callees ?_
      | refine CV.cond ?_
      | refine CV.block ?_
      | refine CV.skip ?_
      | refine CV.exit ?_
      | refine CV.ret ?_
      | refine CV.scope ?_
      | refine CV.draw callees rfl ?_
      | refine CH.cons rfl ?_
      | refine CH.nil ?_
      | refine CO.consG rfl ?_
      | refine CH.consG rfl ?_
      | refine CG.cons rfl ?_
      | refine CG.nil ?_
      | refine CG.consG rfl ?_
      | refine ⟨(rfl : plain _ = true), ?_⟩
      | refine ⟨(rfl : nilOk _ = some _), ?_⟩
      | refine ⟨_, ints_len (by assumption), ?_⟩
      | refine ⟨_, ints_addr (by assumption) (by omega) (by omega), ?_⟩
      | refine ⟨_, ints_load (by assumption) (by omega) (by omega), ?_⟩
      | refine ⟨(⟨by omega, by omega⟩ : inI64 _), ?_⟩
      | refine ⟨_, fun tm ha => step1_max rfl (ev_tmp ha rfl) (ev_tmp ha rfl), ?_⟩
      | refine ⟨_, fun tm ha => step1_min rfl (ev_tmp ha rfl) (ev_tmp ha rfl), ?_⟩
      | refine ⟨_, fun tm ha => neS_f rfl (ev_tmp ha rfl) (ev_tmp ha rfl) rfl, ?_⟩
      | (refine ⟨fun _ => ?_, fun _ => ?_⟩ <;> first | (exfalso; omega) | skip)
      | fail
    refine (eq_spec hBx hu1 hu2 hlev).mono ?_
    rintro r Hc ⟨rfl, rfl⟩
    rw [decide_eq_true rfl]
    obtain ⟨hd1, hd2, hd3⟩ := drawn_ok z
    repeat' first
      | refine CO.cons rfl ?_
      | refine CO.nil ?_
      | refine CV.seq ?_
      | refine CV.region callees ?_
      | refine CV.cond ?_
      | refine CV.block ?_
      | refine CV.skip ?_
      | refine CV.exit ?_
      | refine CV.ret ?_
      | refine CV.scope ?_
      | refine CV.draw callees rfl ?_
      | refine CH.cons rfl ?_
      | refine CH.nil ?_
      | refine CO.consG rfl ?_
      | refine CH.consG rfl ?_
      | refine CG.cons rfl ?_
      | refine CG.nil ?_
      | refine CG.consG rfl ?_
      | refine ⟨(rfl : plain _ = true), ?_⟩
      | refine ⟨(rfl : nilOk _ = some _), ?_⟩
      | refine ⟨_, ints_len (by assumption), ?_⟩
      | refine ⟨_, ints_addr (by assumption) (by omega) (by omega), ?_⟩
      | refine ⟨_, ints_load (by assumption) (by omega) (by omega), ?_⟩
      | refine ⟨(⟨by omega, by omega⟩ : inI64 _), ?_⟩
      | refine ⟨_, fun tm ha => step1_max rfl (ev_tmp ha rfl) (ev_tmp ha rfl), ?_⟩
      | refine ⟨_, fun tm ha => step1_min rfl (ev_tmp ha rfl) (ev_tmp ha rfl), ?_⟩
      | (refine ⟨fun _ => ?_, fun _ => ?_⟩ <;> first | (exfalso; omega) | skip)
      | fail
    refine (blot_any hBx hd1 hd2 hd3 hy).mono ?_
    rintro r Hd ⟨⟨t, rfl, hbt⟩, kd⟩
    replace hBx := Nat.le_trans hBx kd.1
    replace kx := kx.trans kd
    replace hTx := hTx.keep kd
    repeat' first
      | refine CO.cons rfl ?_
      | refine CO.nil ?_
      | refine CV.seq ?_
      | refine CV.region callees ?_
      | refine CV.cond ?_
      | refine CV.block ?_
      | refine CV.skip ?_
      | refine CV.exit ?_
      | refine CV.ret ?_
      | refine CV.scope ?_
      | refine CV.draw callees rfl ?_
      | refine CH.cons rfl ?_
      | refine CH.nil ?_
      | refine CO.consG rfl ?_
      | refine CH.consG rfl ?_
      | refine CG.cons rfl ?_
      | refine CG.nil ?_
      | refine CG.consG rfl ?_
      | refine ⟨(rfl : plain _ = true), ?_⟩
      | refine ⟨(rfl : nilOk _ = some _), ?_⟩
      | refine ⟨_, ints_len (by assumption), ?_⟩
      | refine ⟨_, ints_addr (by assumption) (by omega) (by omega), ?_⟩
      | refine ⟨_, ints_load (by assumption) (by omega) (by omega), ?_⟩
      | refine ⟨(⟨by omega, by omega⟩ : inI64 _), ?_⟩
      | refine ⟨_, fun tm ha => step1_max rfl (ev_tmp ha rfl) (ev_tmp ha rfl), ?_⟩
      | refine ⟨_, fun tm ha => step1_min rfl (ev_tmp ha rfl) (ev_tmp ha rfl), ?_⟩
      | refine ⟨_, _, build_strs, ?_⟩
      | (refine ⟨fun _ => ?_, fun _ => ?_⟩ <;> first | (exfalso; omega) | skip)
      | fail
    refine strs_ask2 hTx kx.1 (Nat.le_trans hB (Nat.le_refl _)) (by omega) ?_
    intro T2 He hT2 hk2
    repeat' first
      | refine CO.cons rfl ?_
      | refine CO.nil ?_
      | refine CV.seq ?_
      | refine CV.region callees ?_
      | refine CV.cond ?_
      | refine CV.block ?_
      | refine CV.skip ?_
      | refine CV.exit ?_
      | refine CV.ret ?_
      | refine CV.scope ?_
      | refine CV.draw callees rfl ?_
      | refine CH.cons rfl ?_
      | refine CH.nil ?_
      | refine CO.consG rfl ?_
      | refine CH.consG rfl ?_
      | refine CG.cons rfl ?_
      | refine CG.nil ?_
      | refine CG.consG rfl ?_
      | refine ⟨(rfl : plain _ = true), ?_⟩
      | refine ⟨(rfl : nilOk _ = some _), ?_⟩
      | refine ⟨_, ints_len (by assumption), ?_⟩
      | refine ⟨_, ints_addr (by assumption) (by omega) (by omega), ?_⟩
      | refine ⟨_, ints_load (by assumption) (by omega) (by omega), ?_⟩
      | refine ⟨(⟨by omega, by omega⟩ : inI64 _), ?_⟩
      | refine ⟨_, fun tm ha => step1_max rfl (ev_tmp ha rfl) (ev_tmp ha rfl), ?_⟩
      | refine ⟨_, fun tm ha => step1_min rfl (ev_tmp ha rfl) (ev_tmp ha rfl), ?_⟩
      | (refine ⟨fun _ => ?_, fun _ => ?_⟩ <;> first | (exfalso; omega) | skip)
      | fail
    refine ⟨(i + 1, T2, ts ++ [drawn z, t]), (by repeat' first | exact trivial | refine ⟨rfl, ?_⟩ | refine ⟨slot_int (by (try simp only [Int.toNat_natCast]); omega), ?_⟩), (by (try dsimp only); omega), ?_⟩
    refine ⟨by omega, by simp; omega, fun t' ht' => ?_, hk2 _ kx (Nat.le_refl _), hT2⟩
    simp only [List.mem_append, List.mem_cons, List.not_mem_nil, or_false] at ht'
    rcases ht' with ht' | rfl | rfl
    · exact htb t' ht'
    · exact hd1
    · exact hbt
  · have htr := hTx.row
    have htl5 : ts.length = 5 := by omega
    repeat' first
      | refine CO.cons rfl ?_
      | refine CO.nil ?_
      | refine CV.seq ?_
      | refine CV.region callees ?_
      | refine CV.cond ?_
      | refine CV.block ?_
      | refine CV.skip ?_
      | refine CV.exit ?_
      | refine CV.ret ?_
      | refine CV.scope ?_
      | refine CV.draw callees rfl ?_
      | refine CH.cons rfl ?_
      | refine CH.nil ?_
      | refine CO.consG rfl ?_
      | refine CH.consG rfl ?_
      | refine CG.cons rfl ?_
      | refine CG.nil ?_
      | refine CG.consG rfl ?_
      | refine ⟨(rfl : plain _ = true), ?_⟩
      | refine ⟨(rfl : nilOk _ = some _), ?_⟩
      | refine ⟨_, ints_len (by assumption), ?_⟩
      | refine ⟨_, ints_addr (by assumption) (by omega) (by omega), ?_⟩
      | refine ⟨_, ints_load (by assumption) (by omega) (by omega), ?_⟩
      | refine ⟨(⟨by omega, by omega⟩ : inI64 _), ?_⟩
      | refine ⟨_, fun tm ha => step1_max rfl (ev_tmp ha rfl) (ev_tmp ha rfl), ?_⟩
      | refine ⟨_, fun tm ha => step1_min rfl (ev_tmp ha rfl) (ev_tmp ha rfl), ?_⟩
      | refine ⟨_, hRx.alen, ?_⟩
      | (refine ⟨fun _ => ?_, fun _ => ?_⟩ <;> first | (exfalso; omega) | skip)
      | fail
    refine CV.loopc ?_
    refine WCv.rounds callees false (α := Nat) (fun j => [(16, T), (26, .int .i64 j)]) (fun j Hz => j ≤ 5 ∧ Keep Hx Hz) (fun j => 5 - j) (0) (by repeat' first | exact trivial | refine ⟨rfl, ?_⟩ | refine ⟨slot_int (by (try simp only [Int.toNat_natCast]); omega), ?_⟩) ?_ ?_
    · exact ⟨by omega, Keep.refl _⟩
    rintro j Hy ⟨hj, ky⟩ hBy
    have hty : Row Hy T (ts.map VS) := Row.keep htr ky
    have hBk := hBase.keep ((kk.trans kx).trans ky)
    by_cases hj5 : j < 5
    · obtain ⟨t, ht⟩ : ∃ t, ts[j]! = t := ⟨_, rfl⟩
      have hbt : Bytes t := htb t (by rw [← ht, getElem!_pos ts j (by omega)]; exact List.getElem_mem _)
      have hld : ∀ Hq, Row Hq T (ts.map VS) → aload Tryd.prog 9 Hq (elemAt T (j : Int).toNat) = some (VS t) := fun Hq hq => by rw [← ht]; exact strs_load hq (by omega) (by omega)
      repeat' first
        | refine CO.cons rfl ?_
        | refine CO.nil ?_
        | refine CV.seq ?_
        | refine CV.region callees ?_
        | refine CV.cond ?_
        | refine CV.block ?_
        | refine CV.skip ?_
        | refine CV.exit ?_
        | refine CV.ret ?_
        | refine CV.scope ?_
        | refine CV.draw callees rfl ?_
        | refine CH.cons rfl ?_
        | refine CH.nil ?_
        | refine CO.consG rfl ?_
        | refine CH.consG rfl ?_
        | refine CG.cons rfl ?_
        | refine CG.nil ?_
        | refine CG.consG rfl ?_
        | refine ⟨(rfl : plain _ = true), ?_⟩
        | refine ⟨(rfl : nilOk _ = some _), ?_⟩
        | refine ⟨_, ints_len (by assumption), ?_⟩
        | refine ⟨_, ints_addr (by assumption) (by omega) (by omega), ?_⟩
        | refine ⟨_, ints_load (by assumption) (by omega) (by omega), ?_⟩
        | refine ⟨(⟨by omega, by omega⟩ : inI64 _), ?_⟩
        | refine ⟨_, fun tm ha => step1_max rfl (ev_tmp ha rfl) (ev_tmp ha rfl), ?_⟩
        | refine ⟨_, fun tm ha => step1_min rfl (ev_tmp ha rfl) (ev_tmp ha rfl), ?_⟩
        | refine ⟨_, strs_len hty, ?_⟩
        | refine ⟨_, strs_addr hty (by omega) (by omega), ?_⟩
        | refine ⟨_, hld _ hty, ?_⟩
        | (refine ⟨fun _ => ?_, fun _ => ?_⟩ <;> first | (exfalso; omega) | skip)
        | fail
      refine (read_spec hBy hBk hbt).mono ?_
      rintro r1 H8 ⟨hr1, k8⟩
      replace hBy := Nat.le_trans hBy k8.1
      replace hty := hty.keep k8
      replace ky := ky.trans k8
      obtain ⟨u1, e1, rfl⟩ := readR_one hr1
      repeat' first
        | refine CO.cons rfl ?_
        | refine CO.nil ?_
        | refine CV.seq ?_
        | refine CV.region callees ?_
        | refine CV.cond ?_
        | refine CV.block ?_
        | refine CV.skip ?_
        | refine CV.exit ?_
        | refine CV.ret ?_
        | refine CV.scope ?_
        | refine CV.draw callees rfl ?_
        | refine CH.cons rfl ?_
        | refine CH.nil ?_
        | refine CO.consG rfl ?_
        | refine CH.consG rfl ?_
        | refine CG.cons rfl ?_
        | refine CG.nil ?_
        | refine CG.consG rfl ?_
        | refine ⟨(rfl : plain _ = true), ?_⟩
        | refine ⟨(rfl : nilOk _ = some _), ?_⟩
        | refine ⟨_, ints_len (by assumption), ?_⟩
        | refine ⟨_, ints_addr (by assumption) (by omega) (by omega), ?_⟩
        | refine ⟨_, ints_load (by assumption) (by omega) (by omega), ?_⟩
        | refine ⟨(⟨by omega, by omega⟩ : inI64 _), ?_⟩
        | refine ⟨_, fun tm ha => step1_max rfl (ev_tmp ha rfl) (ev_tmp ha rfl), ?_⟩
        | refine ⟨_, fun tm ha => step1_min rfl (ev_tmp ha rfl) (ev_tmp ha rfl), ?_⟩
        | refine ⟨_, strs_addr hty (by omega) (by omega), ?_⟩
        | refine ⟨_, hld _ hty, ?_⟩
        | (refine ⟨fun _ => ?_, fun _ => ?_⟩ <;> first | (exfalso; omega) | skip)
        | fail
      refine (refRead_spec hBy hbt).mono ?_
      rintro r2 H9 ⟨hr2, k9⟩
      replace hBy := Nat.le_trans hBy k9.1
      replace hty := hty.keep k9
      replace ky := ky.trans k9
      obtain ⟨u, v, e, qs, ea, eb, hu, hv, hq9⟩ := readR_same (readR_keep hr1 k9) hr2
      subst eb
      have e2 : #[u1, Value.int .i64 e1] = #[u, .int .i64 e] := Value.tuple.inj ea
      obtain ⟨rfl, e3⟩ : u1 = u ∧ e1 = e := by simpa using e2
      subst e3
      repeat' first
        | refine CO.cons rfl ?_
        | refine CO.nil ?_
        | refine CV.seq ?_
        | refine CV.region callees ?_
        | refine CV.cond ?_
        | refine CV.block ?_
        | refine CV.skip ?_
        | refine CV.exit ?_
        | refine CV.ret ?_
        | refine CV.scope ?_
        | refine CV.draw callees rfl ?_
        | refine CH.cons rfl ?_
        | refine CH.nil ?_
        | refine CO.consG rfl ?_
        | refine CH.consG rfl ?_
        | refine CG.cons rfl ?_
        | refine CG.nil ?_
        | refine CG.consG rfl ?_
        | refine ⟨(rfl : plain _ = true), ?_⟩
        | refine ⟨(rfl : nilOk _ = some _), ?_⟩
        | refine ⟨_, ints_len (by assumption), ?_⟩
        | refine ⟨_, ints_addr (by assumption) (by omega) (by omega), ?_⟩
        | refine ⟨_, ints_load (by assumption) (by omega) (by omega), ?_⟩
        | refine ⟨(⟨by omega, by omega⟩ : inI64 _), ?_⟩
        | refine ⟨_, fun tm ha => step1_max rfl (ev_tmp ha rfl) (ev_tmp ha rfl), ?_⟩
        | refine ⟨_, fun tm ha => step1_min rfl (ev_tmp ha rfl) (ev_tmp ha rfl), ?_⟩
        | (refine ⟨fun _ => ?_, fun _ => ?_⟩ <;> first | (exfalso; omega) | skip)
        | fail
      refine (eq_spec hBy hu hv (by omega)).mono ?_
      rintro r Hc ⟨rfl, rfl⟩
      rw [decide_eq_true rfl]
      repeat' first
        | refine CO.cons rfl ?_
        | refine CO.nil ?_
        | refine CV.seq ?_
        | refine CV.region callees ?_
        | refine CV.cond ?_
        | refine CV.block ?_
        | refine CV.skip ?_
        | refine CV.exit ?_
        | refine CV.ret ?_
        | refine CV.scope ?_
        | refine CV.draw callees rfl ?_
        | refine CH.cons rfl ?_
        | refine CH.nil ?_
        | refine CO.consG rfl ?_
        | refine CH.consG rfl ?_
        | refine CG.cons rfl ?_
        | refine CG.nil ?_
        | refine CG.consG rfl ?_
        | refine ⟨(rfl : plain _ = true), ?_⟩
        | refine ⟨(rfl : nilOk _ = some _), ?_⟩
        | refine ⟨_, ints_len (by assumption), ?_⟩
        | refine ⟨_, ints_addr (by assumption) (by omega) (by omega), ?_⟩
        | refine ⟨_, ints_load (by assumption) (by omega) (by omega), ?_⟩
        | refine ⟨(⟨by omega, by omega⟩ : inI64 _), ?_⟩
        | refine ⟨_, fun tm ha => step1_max rfl (ev_tmp ha rfl) (ev_tmp ha rfl), ?_⟩
        | refine ⟨_, fun tm ha => step1_min rfl (ev_tmp ha rfl) (ev_tmp ha rfl), ?_⟩
        | (refine ⟨fun _ => ?_, fun _ => ?_⟩ <;> first | (exfalso; omega) | skip)
        | fail
      refine ⟨(j + 1), (by repeat' first | exact trivial | refine ⟨rfl, ?_⟩ | refine ⟨slot_int (by (try simp only [Int.toNat_natCast]); omega), ?_⟩), (by (try dsimp only); omega), ?_⟩
      exact ⟨by omega, ky⟩
    · repeat' first
        | refine CO.cons rfl ?_
        | refine CO.nil ?_
        | refine CV.seq ?_
        | refine CV.region callees ?_
        | refine CV.cond ?_
        | refine CV.block ?_
        | refine CV.skip ?_
        | refine CV.exit ?_
        | refine CV.ret ?_
        | refine CV.scope ?_
        | refine CV.draw callees rfl ?_
        | refine CH.cons rfl ?_
        | refine CH.nil ?_
        | refine CO.consG rfl ?_
        | refine CH.consG rfl ?_
        | refine CG.cons rfl ?_
        | refine CG.nil ?_
        | refine CG.consG rfl ?_
        | refine ⟨(rfl : plain _ = true), ?_⟩
        | refine ⟨(rfl : nilOk _ = some _), ?_⟩
        | refine ⟨_, ints_len (by assumption), ?_⟩
        | refine ⟨_, ints_addr (by assumption) (by omega) (by omega), ?_⟩
        | refine ⟨_, ints_load (by assumption) (by omega) (by omega), ?_⟩
        | refine ⟨(⟨by omega, by omega⟩ : inI64 _), ?_⟩
        | refine ⟨_, fun tm ha => step1_max rfl (ev_tmp ha rfl) (ev_tmp ha rfl), ?_⟩
        | refine ⟨_, fun tm ha => step1_min rfl (ev_tmp ha rfl) (ev_tmp ha rfl), ?_⟩
        | refine ⟨_, strs_len hty, ?_⟩
        | refine CallB.known rfl hBk hBy ?_
        | (refine ⟨fun _ => ?_, fun _ => ?_⟩ <;> first | (exfalso; omega) | skip)
        | fail
      exact ⟨rfl, rfl⟩
end Go.Proofs.YteocbhefhobehaaDoor
