/- Several texts in one. -/
import Derived.Test.YtcpklnekpdhlmaaW4
import Derived.Test.YtcpklnekpdhlmaaSbs
set_option linter.unusedVariables false
set_option linter.unusedSimpArgs false

/- Marks. -/
namespace Go.Proofs.Ytcpklnekpdhlmaa
open Go.AI
/-- A score. -/
abbrev Xv (p k w r n o s h : Int) : Value := .agg #[.int .i64 p, .int .i64 k, .int .i64 w, .int .i64 r, .int .i64 n, .int .i64 o, .int .i64 s, .int .i64 h]
abbrev Xl (p k w r n o s h : Int) : List Value := [.int .i64 p, .int .i64 k, .int .i64 w, .int .i64 r, .int .i64 n, .int .i64 o, .int .i64 s, .int .i64 h]
theorem keep_put {H H1 H2 : Heap} {b : Nat} (k : Keep H H1) (hb : H.n ≤ b) (ho : ∀ c, c ≠ b → H2.get c = H1.get c) (hn : H2.n = H1.n) : Keep H H2 :=
  ⟨by rw [hn]; exact k.1, fun c hc => by rw [ho c (by omega)]; exact k.2 c hc⟩
end Go.Proofs.Ytcpklnekpdhlmaa



/- Mark; orders, picks, scorings and answers that are made of numbers. -/
namespace Go.Proofs.Ytcpklnekpdhlmaa
open Go.AI
theorem keepX_put {b c : Nat} {H H1 H2 : Heap} (k : KeepX b H H1) (hc : H.n ≤ c) (ho : ∀ d, d ≠ c → H2.get d = H1.get d) (hn : H2.n = H1.n) : KeepX b H H2 :=
  ⟨by rw [hn]; exact k.1, fun d hd hdb => by rw [ho d (by omega)]; exact k.2 d hd hdb⟩
theorem box_put {b c : Nat} {H H2 : Heap} (h : Box b H) (hc : b ≠ c) (ho : ∀ d, d ≠ c → H2.get d = H.get d) (hn : H2.n = H.n) : Box b H2 :=
  ⟨by rw [hn]; exact h.1, by obtain ⟨w, hw⟩ := h.2; exact ⟨w, by rw [ho b hc]; exact hw⟩⟩

set_option maxRecDepth 100000 in
theorem pick_spec {B b : Nat} {H : Heap} {v : Value} {xs : List Int} (hB : B ≤ b) (hn : B ≤ H.n) (hb : Box b H) (hv : Ints H v xs) (h0 : 0 < xs.length) (h9 : xs.length ≤ 1000) :
    CallB Try.prog B 44 [bp b, v] H (fun r H' => (∃ i, i < xs.length ∧ r = .int .i64 xs[i]!) ∧ Box b H' ∧ KeepX b H H') := by
  refine CV.enter callees false rfl Try.func44 rfl (by kernel_rfl) (Nat.le_of_ble_eq_true rfl) hn ?_
  repeat' first
    | refine CO.cons rfl ?_
    | refine CO.nil ?_
    | refine CV.seq ?_
    | refine CV.region callees ?_
    | refine CV.cond ?_
    | refine CV.block ?_
    | refine CV.skip ?_
    | refine CV.exit ?_
    | refine CV.ret ?_
    | refine CV.scope ?_
    | refine CV.draw callees rfl ?_
    | refine CH.cons rfl ?_
    | refine CH.nil ?_
    | refine CO.consG rfl ?_
    | refine CH.consG rfl ?_
    | refine CG.cons rfl ?_
    | refine CR.cons ?_
    | refine CR.nil ?_
    | refine CG.nil ?_
    | refine CG.consG rfl ?_
    | refine ⟨(rfl : plain _ = true), ?_⟩
    | refine ⟨(rfl : nilOk _ = some _), ?_⟩
    | refine ⟨_, ints_len (by assumption), ?_⟩
    | refine ⟨_, ints_addr (by assumption) (by omega) (by omega), ?_⟩
    | refine ⟨_, ints_load (by assumption) (by omega) (by omega), ?_⟩
    | refine ⟨(⟨by omega, by omega⟩ : inI64 _), ?_⟩
    | refine ⟨_, fun tm ha => step1_max rfl (ev_tmp ha rfl) (ev_tmp ha rfl), ?_⟩
    | refine ⟨_, fun tm ha => step1_min rfl (ev_tmp ha rfl) (ev_tmp ha rfl), ?_⟩
    | (refine ⟨fun _ => ?_, fun _ => ?_⟩ <;> first | (exfalso; omega) | skip)
    | fail
  refine (up_spec hB hn hb (by omega)).mono ?_
  rintro r H2 ⟨⟨x, rfl, hx0, hx1⟩, hb2, hk2⟩
  have hv2 : Ints H2 v xs := row_box hv hk2 hb
  repeat' first
    | refine CO.cons rfl ?_
    | refine CO.nil ?_
    | refine CV.seq ?_
    | refine CV.region callees ?_
    | refine CV.cond ?_
    | refine CV.block ?_
    | refine CV.skip ?_
    | refine CV.exit ?_
    | refine CV.ret ?_
    | refine CV.scope ?_
    | refine CV.draw callees rfl ?_
    | refine CH.cons rfl ?_
    | refine CH.nil ?_
    | refine CO.consG rfl ?_
    | refine CH.consG rfl ?_
    | refine CG.cons rfl ?_
    | refine CR.cons ?_
    | refine CR.nil ?_
    | refine CG.nil ?_
    | refine CG.consG rfl ?_
    | refine ⟨(rfl : plain _ = true), ?_⟩
    | refine ⟨(rfl : nilOk _ = some _), ?_⟩
    | refine ⟨_, ints_len (by assumption), ?_⟩
    | refine ⟨_, ints_addr (by assumption) (by omega) (by omega), ?_⟩
    | refine ⟨_, ints_load (by assumption) (by omega) (by omega), ?_⟩
    | refine ⟨(⟨by omega, by omega⟩ : inI64 _), ?_⟩
    | refine ⟨_, fun tm ha => step1_max rfl (ev_tmp ha rfl) (ev_tmp ha rfl), ?_⟩
    | refine ⟨_, fun tm ha => step1_min rfl (ev_tmp ha rfl) (ev_tmp ha rfl), ?_⟩
    | (refine ⟨fun _ => ?_, fun _ => ?_⟩ <;> first | (exfalso; omega) | skip)
    | fail
  exact ⟨rfl, ⟨x.toNat, by omega, rfl⟩, hb2, hk2⟩
end Go.Proofs.Ytcpklnekpdhlmaa



/- Scorings and answers that are made of numbers. -/
namespace Go.Proofs.Ytcpklnekpdhlmaa
open Go.AI
theorem sz22 : sizeB Try.prog 22 = some 1 := by kernel_rfl
/-- A scoring that is valid: its keys are some of six, each one once. -/
structure Valid (a c w n l : Int) (ks : List Int) : Prop where
  pts : (0 ≤ a ∧ a ≤ 4) ∧ (0 ≤ c ∧ c ≤ 3) ∧ (0 ≤ w ∧ w ≤ 19) ∧ (0 ≤ n ∧ n ≤ 5) ∧ 0 ≤ l ∧ l ≤ 3
  len : ks.length ≤ 4
  dist : Dist ks
  keys : ∀ i, i < ks.length → 1 ≤ ks[i]! ∧ ks[i]! ≤ 6
theorem ckK_ok {ks : List Int} (hd : Dist ks) (hk : ∀ i, i < ks.length → 1 ≤ ks[i]! ∧ ks[i]! ≤ 6) : ∀ m i, i + m ≤ ks.length → ckK ks m i = 0
  | 0, _, _ => rfl
  | m + 1, i, h => by
    have := hk i (by omega)
    rw [ckK, if_neg (by omega), if_neg ?_]
    · exact ckK_ok hd hk m (i + 1) (by omega)
    · intro hm
      obtain ⟨j, hj, he⟩ := List.getElem_of_mem hm
      rw [List.length_take] at hj
      rw [List.getElem_take] at he
      have := hd j i (by omega) (by omega) (by rw [getElem!_pos ks j (by omega)]; exact he)
      omega
theorem Valid.ok {a c w n l : Int} {ks : List Int} (h : Valid a c w n l ks) : scE a c w n l ks = 0 := by
  obtain ⟨p1, p2, p3, p4, p5⟩ := h.pts
  rw [scE, if_neg (fun hp => hp ⟨by omega, by omega, by omega, by omega, by omega⟩), if_neg (by have := h.len; omega)]
  exact ckK_ok h.dist h.keys _ _ (by omega)
end Go.Proofs.Ytcpklnekpdhlmaa



/- Answers that are made of numbers. -/
namespace Go.Proofs.Ytcpklnekpdhlmaa
open Go.AI
end Go.Proofs.Ytcpklnekpdhlmaa

