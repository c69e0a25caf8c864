
/- How a fire truly burns, made of numbers; true heats. -/
import Derived.Test.YtglkphjjinmgmaaWrh
set_option linter.unusedVariables false
set_option linter.unusedSimpArgs false
namespace Go.Proofs.Ytglkphjjinmgmaa
open Go.AI
theorem cs_heat {H : Heap} {v : Value} {l : List Co} (h : RowS 7 H v (l.map Col)) {j : Nat} (hj : j < l.length) : aload Try.prog 27 H (fieldOf (elemS v 7 j) 4) = some (Hv (l[j]!.hl, l[j]!.hh)) := RowS_sub h ag41 sz41 (col_at hj) (by omega)
set_option maxHeartbeats 8000000 in
set_option maxRecDepth 100000 in
theorem heatsOf_spec {B b : Nat} {H : Heap} {cv tv : Value} {cs : List Co} {ts : List (Int × Int)} {c0 t0 : Nat} (hB : B ≤ b) (hn : B ≤ H.n) (hb : Box b H) (hc : OwnC H cv cs c0) (ht : OwnT H tv ts t0) (hf : FOk cs ts) :
    CallB Try.prog B 46 [bp b, Fv cv tv] H (fun r H' => (∃ E : List Int, Own 3 H' r (E.map VJ) H.n ∧ E.length = cs.length ∧ ∀ i, i < cs.length → cs[i]!.hl ≤ E[i]! ∧ E[i]! ≤ cs[i]!.hh) ∧ Box b H' ∧ KeepX b H H') := by
  have hbn := hb.1
  have hn12 := hf.n
  refine CV.enter callees false rfl Try.func46 rfl (by kernel_rfl) (Nat.le_of_ble_eq_true rfl) hn ?_
  repeat' first
    | refine CO.cons rfl ?_
    | refine CV.seq ?_
    | refine CV.region callees ?_
    | fail
  refine ⟨(by simp only [notTuple]), ?_⟩
  rw [allocFv hc.row.cells.1 ht.row.cells.1]
  generalize hs3 : Heap.new H _ = H3
  have hg3 := new_get hs3
  have k3 := new_keep hs3
  have n3 := new_n hs3
  obtain ⟨b3, hbn3⟩ : ∃ b, Heap.n H = b := ⟨_, rfl⟩
  rw [hbn3] at hg3 n3 ⊢
  have hb3 := hb.keep k3
  have hc3 : OwnC H3 cv cs c0 := OwnS.keep hc k3
  repeat' first
    | refine CO.cons rfl ?_
    | refine CO.nil ?_
    | refine CV.seq ?_
    | refine CV.region callees ?_
    | refine CV.block ?_
    | fail
  refine CV.loopc ?_
  refine WCv.rounds callees false (α := Nat × Value × List Int) (fun (i, q, E) => [(0, bp b), (3, .pointer (some ⟨b3, 0, none⟩)), (5, q), (6, VJ i)]) (fun (i, q, E) Hz => i ≤ cs.length ∧ E.length = i ∧ Own 3 Hz q (E.map VJ) H3.n ∧ (∀ j, j < i → cs[j]!.hl ≤ E[j]! ∧ E[j]! ≤ cs[j]!.hh) ∧ Hz.get b3 = some (.cells (Fl cv tv) 25 1) ∧ OwnC Hz cv cs c0 ∧ Box b Hz ∧ KeepX b H Hz ∧ H3.n ≤ Hz.n) (fun (i, q, E) => cs.length - i) (0, nilS, []) (by repeat' first | exact trivial | refine ⟨rfl, ?_⟩ | refine ⟨slot_int (by (try simp only [Int.toNat_natCast]); omega), ?_⟩) ?_ ?_
  · exact ⟨by omega, rfl, .inl ⟨rfl, rfl⟩, fun j hj => by omega, hg3, hc3, hb3, k3.butX b, Nat.le_refl _⟩
  rintro ⟨i, q, E⟩ Hx ⟨hi, hE, hq, hEs, hgx, hcx, hbx, xx, lx⟩ hBx
  by_cases hi2 : i < cs.length
  · obtain ⟨h1, h2, h3⟩ := (⟨(hf.c i hi2).h1, (hf.c i hi2).h2, (hf.c i hi2).h3⟩ : _ ∧ _ ∧ _)
    repeat' first
      | refine CO.cons rfl ?_
      | refine CO.nil ?_
      | refine CV.seq ?_
      | refine CV.region callees ?_
      | refine CV.cond ?_
      | refine CV.block ?_
      | refine CV.skip ?_
      | (refine ⟨_, fS foF0 (by decide), ?_⟩)
      | (refine ⟨_, cell_load ag25 hgx rfl, ?_⟩)
      | (refine ⟨_, cs_len hcx.row, ?_⟩)
      | (refine ⟨_, cs_addr hcx.row (by omega) (by omega), ?_⟩)
      | (refine ⟨_, cs_f hcx.row foC2 (by decide) hi2, ?_⟩)
      | (refine ⟨_, cs_heat hcx.row hi2, ?_⟩)
      | (refine ⟨fun _ => ?_, fun _ => ?_⟩ <;> first | (exfalso; omega) | skip)
      | fail
    refine (in_spec (p := (cs[i]!.hl, cs[i]!.hh)) hB (by omega) hbx h1 h2 (by show cs[i]!.hh < 100000; omega)).mono ?_
    rintro r H4 ⟨⟨x, rfl, x1, x2⟩, hb4, k4⟩
    have l4 := k4.1
    have hq4 := hq.box k4 hbx
    have hg4 := (k4.2 b3 (by omega) (by omega)).trans hgx
    have hc4 : OwnC H4 cv cs c0 := OwnS.boxed hcx k4 hbx
    repeat' first
      | refine CO.cons rfl ?_
      | (refine ⟨_, _, build_one un22 one3 rfl, ?_⟩)
      | fail
    refine push_ask (y := x) hq4 (by omega) (by omega) (by omega) ?_
    intro q5 H5 hq5 kb5 hf5
    have l5 := kb5.le
    have hqa : ∀ c, blkOf q = some c → H3.n ≤ c := fun c hc => (hq4.lt hc).1
    have hg5 := (kb5.get b3 (by omega) (fun h => by have := hqa _ h; omega)).trans hg4
    have hb5 := hb4.keepBut kb5 (fun h => by have := hqa _ h; omega)
    have hc5 : OwnC H5 cv cs c0 := ownS_keepBt hc4 kb5 fun c h1 h2 => by have := hqa _ h2; have := (hc3.lt h1).2; omega
    have x5 := kb5.keepX (xx.trans k4) fun c hc => by have := hqa _ hc; omega
    repeat' first
      | refine CO.cons rfl ?_
      | refine CO.nil ?_
      | refine CV.region callees ?_
      | refine ⟨(⟨by omega, by omega⟩ : inI64 _), ?_⟩
      | fail
    refine ⟨(i + 1, q5, E ++ [x]), (by repeat' first | exact trivial | refine ⟨rfl, ?_⟩ | refine ⟨slot_int (by (try simp only [Int.toNat_natCast]); omega), ?_⟩), (by (try dsimp only); omega), ?_⟩
    refine ⟨by omega, by show (E ++ [x]).length = i + 1; rw [List.length_append, List.length_singleton]; omega, hq5, fun j hj => ?_, hg5, hc5, hb5, x5, by omega⟩
    show cs[j]!.hl ≤ (E ++ [x])[j]! ∧ (E ++ [x])[j]! ≤ cs[j]!.hh
    rw [getElem!_pos (E ++ [x]) j (by rw [List.length_append, List.length_singleton]; omega)]
    by_cases hji : j < E.length
    · rw [List.getElem_append_left hji]
      have := hEs j (by omega)
      rwa [getElem!_pos E j hji] at this
    · obtain rfl : j = i := by omega
      rw [List.getElem_append_right (by omega)]
      simp only [List.getElem_singleton]
      exact ⟨x1, x2⟩
  obtain rfl : i = cs.length := by omega
  repeat' first
    | refine CO.cons rfl ?_
    | refine CO.nil ?_
    | refine CV.seq ?_
    | refine CV.region callees ?_
    | refine CV.cond ?_
    | refine CV.exit ?_
    | refine CV.ret ?_
    | (refine ⟨_, fS foF0 (by decide), ?_⟩)
    | (refine ⟨_, cell_load ag25 hgx rfl, ?_⟩)
    | (refine ⟨_, cs_len hcx.row, ?_⟩)
    | (refine ⟨fun _ => ?_, fun _ => ?_⟩ <;> first | (exfalso; omega) | skip)
    | fail
  exact ⟨by simp only [List.all_cons, List.all_nil, hq.notTuple]; rfl, ⟨E, hq.lower (by omega), hE, hEs⟩, hbx, xx⟩
/-- The heat that is truly given. -/
def trueH (V A E : List Int) (m : Int) : Nat → Int
  | 0 => 0
  | i + 1 => trueH V A E m i + if A[i]! ≤ m ∧ m < A[i]! + V[i]! then E[i]! else 0
theorem trueH_bd {V A E : List Int} {m : Int} {n : Nat} (h : ∀ i, i < n → 0 ≤ E[i]! ∧ E[i]! ≤ 1000) : ∀ i : Nat, i ≤ n → 0 ≤ trueH V A E m i ∧ trueH V A E m i ≤ 1000 * i := by
  intro i
  induction i with
  | zero => intro _; simp [trueH]
  | succ i ih =>
    intro hi
    have := ih (by omega)
    have := h i (by omega)
    simp only [trueH]
    split <;> omega
set_option maxHeartbeats 8000000 in
set_option maxRecDepth 100000 in
theorem hot_spec {B : Nat} {H : Heap} {cv bv av ev : Value} {C V A E : List Int} {m : Int} {n : Nat} (hB : B ≤ H.n) (hC : Ints H cv C) (hV : Ints H bv V) (hA : Ints H av A) (hE : Ints H ev E) (hVn : V.length = n) (hAn : A.length = n) (hEn : E.length = n) (hn : n ≤ 100) (hVb : ∀ i, i < n → 0 ≤ V[i]! ∧ V[i]! ≤ 1000) (hAb : ∀ i, i < n → 0 ≤ A[i]! ∧ A[i]! ≤ 1000000) (hEb : ∀ i, i < n → 0 ≤ E[i]! ∧ E[i]! ≤ 1000) :
    CallB Try.prog B 49 [Fv cv bv, av, ev, VJ m] H (fun r H' => r = VJ (trueH V A E m n) ∧ Keep H H') := by
  have hbd := trueH_bd (V := V) (A := A) (m := m) hEb
  refine CV.enter callees false rfl Try.func49 rfl (by kernel_rfl) (Nat.le_of_ble_eq_true rfl) hB ?_
  repeat' first
    | refine CO.cons rfl ?_
    | refine CV.seq ?_
    | refine CV.region callees ?_
    | fail
  refine ⟨(by simp only [notTuple]), ?_⟩
  rw [allocRv (row_cells hC) (row_cells hV)]
  generalize hs4 : Heap.new H _ = H4
  have hg4 := new_get hs4
  have k4 := new_keep hs4
  have n4 := new_n hs4
  obtain ⟨b4, hbn4⟩ : ∃ b, Heap.n H = b := ⟨_, rfl⟩
  rw [hbn4] at hg4 n4 ⊢
  repeat' first
    | refine CO.cons rfl ?_
    | refine CO.nil ?_
    | refine CV.seq ?_
    | refine CV.region callees ?_
    | refine CV.block ?_
    | fail
  refine CV.loopc ?_
  refine WCv.rounds callees false (α := Nat × Int) (fun (i, k) => [(1, av), (2, ev), (3, VJ m), (4, .pointer (some ⟨b4, 0, none⟩)), (9, VJ k), (10, VJ i)]) (fun (i, k) Hz => i ≤ n ∧ k = trueH V A E m i ∧ Hz = H4) (fun (i, k) => n - i) (0, 0) (by repeat' first | exact trivial | refine ⟨rfl, ?_⟩ | refine ⟨slot_int (by (try simp only [Int.toNat_natCast]); omega), ?_⟩) ?_ ?_
  · exact ⟨by omega, rfl, rfl⟩
  rintro ⟨i, k⟩ Hx ⟨hi, rfl, rfl⟩ hBx
  have hVx : Ints Hx bv V := hV.keep k4
  have hAx : Ints Hx av A := hA.keep k4
  have hEx : Ints Hx ev E := hE.keep k4
  by_cases hi2 : i < n
  · have b1 := hVb i hi2
    have b2 := hAb i hi2
    have b3 := hEb i hi2
    have b4' := hbd i (by omega)
    have tA : A[(i : Int).toNat]! = A[i]! := rfl
    have tV : V[(i : Int).toNat]! = V[i]! := rfl
    have tE : E[(i : Int).toNat]! = E[i]! := rfl
    have hst : trueH V A E m (i + 1) = trueH V A E m i + if A[i]! ≤ m ∧ m < A[i]! + V[i]! then E[i]! else 0 := rfl
    repeat' first
      | refine CO.cons rfl ?_
      | refine CO.nil ?_
      | refine CV.seq ?_
      | refine CV.region callees ?_
      | refine CV.cond ?_
      | refine CV.block ?_
      | refine CV.skip ?_
      | refine CV.draw callees (by decide +kernel) ?_
      | refine CH.cons rfl ?_
      | refine CH.nil ?_
      | refine CH.consG rfl ?_
      | refine ⟨_, ints_len (by assumption), ?_⟩
      | refine ⟨_, ints_addr (by assumption) (by omega) (by omega), ?_⟩
      | refine ⟨_, ints_load (by assumption) (by omega) (by omega), ?_⟩
      | refine ⟨(⟨by omega, by omega⟩ : inI64 _), ?_⟩
      | (refine ⟨_, fS foR1 (by decide), ?_⟩)
      | (refine ⟨_, cell_load ag22h hg4 rfl, ?_⟩)
      | (refine ⟨fun _ => ?_, fun _ => ?_⟩ <;> first | (exfalso; omega) | skip)
      | fail
    all_goals first
      | (refine ⟨(i + 1, trueH V A E m i + E[i]!), (by repeat' first | exact trivial | refine ⟨rfl, ?_⟩ | refine ⟨slot_int (by (try simp only [Int.toNat_natCast]); omega), ?_⟩), (by (try dsimp only); omega), ?_⟩
         refine ⟨by omega, ?_, rfl⟩
         rw [hst, if_pos (by omega)])
      | (refine ⟨(i + 1, trueH V A E m i), (by repeat' first | exact trivial | refine ⟨rfl, ?_⟩ | refine ⟨slot_int (by (try simp only [Int.toNat_natCast]); omega), ?_⟩), (by (try dsimp only); omega), ?_⟩
         refine ⟨by omega, ?_, rfl⟩
         rw [hst, if_neg (by omega), Int.add_zero])
  obtain rfl : i = n := by omega
  repeat' first
    | refine CO.cons rfl ?_
    | refine CO.nil ?_
    | refine CV.seq ?_
    | refine CV.region callees ?_
    | refine CV.cond ?_
    | refine CV.exit ?_
    | refine CV.ret ?_
    | refine ⟨_, ints_len (by assumption), ?_⟩
    | (refine ⟨fun _ => ?_, fun _ => ?_⟩ <;> first | (exfalso; omega) | skip)
    | fail
  exact ⟨rfl, rfl, k4⟩
end Go.Proofs.Ytglkphjjinmgmaa
