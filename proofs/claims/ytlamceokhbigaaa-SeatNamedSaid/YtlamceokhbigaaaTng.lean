
/- The rules that an order does not keep, as a list; the law's small functions. -/
import Derived.Test.YtlamceokhbigaaaTkg
set_option linter.unusedVariables false
set_option linter.unusedSimpArgs false
namespace Go.Proofs.Ytlamceokhbigaaa
open Go.AI
/-- The bits of a number, ascending. -/
def bitsL (N : Nat) : Nat → List Int
  | 0 => []
  | i + 1 => bif hasN N i then bitsL N i ++ [(i : Int)] else bitsL N i
theorem bitsL_len {N : Nat} : ∀ {i : Nat}, (bitsL N i).length ≤ i
  | 0 => by simp [bitsL]
  | i + 1 => by
    have := bitsL_len (N := N) (i := i)
    unfold bitsL
    cases hasN N i
    · simp only [cond_false]; omega
    · simp only [cond_true, List.length_append, List.length_singleton]; omega
theorem has_none {N i j : Nat} (h : N >>> i = 0) (hj : i ≤ j) : hasN N j = false := by
  have e : N >>> j = 0 := by
    rw [show j = i + (j - i) by omega, Nat.shiftRight_add, h, Nat.zero_shiftRight]
  simp [hasN, e]
set_option maxRecDepth 100000 in
theorem list2_spec {B N : Nat} {H : Heap} (hB : B ≤ H.n) (hN : N < 2 ^ 32) :
    CallB Try.prog B 70 [VU N] H (fun v H' => (∃ i, i ≤ 32 ∧ N >>> i = 0 ∧ Own 3 H' v ((bitsL N i).map VI) H.n) ∧ Keep H H') := by
  have hs : ∀ i : Nat, N >>> i < 2 ^ 64 := fun i => Nat.lt_of_le_of_lt (by rw [Nat.shiftRight_eq_div_pow]; exact Nat.div_le_self _ _) (Nat.lt_trans hN (by decide))
  refine CV.enter callees false rfl Try.func70 rfl (by kernel_rfl) (Nat.le_of_ble_eq_true rfl) hB ?_
  repeat' first
    | refine CO.cons rfl ?_
    | refine CO.nil ?_
    | refine CV.seq ?_
    | refine CV.region callees ?_
    | refine CV.block ?_
    | fail
  refine CV.loopc ?_
  refine WCv.rounds callees false (α := Nat × Value) (fun (i, l) => [(0, VU N), (3, l), (4, VI i)]) (fun (i, l) Hz => i ≤ 32 ∧ Own 3 Hz l ((bitsL N i).map VI) H.n ∧ Keep H Hz) (fun (i, l) => 32 - i) (0, nilS) (by repeat' first | exact trivial | refine ⟨rfl, ?_⟩ | refine ⟨slot_int (by (try simp only [Int.toNat_natCast]); omega), ?_⟩) ?_ ?_
  · exact ⟨by omega, .inl ⟨rfl, rfl⟩, Keep.refl _⟩
  rintro ⟨i, l⟩ Hx ⟨hi, hq, kx⟩ hBx
  have lx := kx.1
  have hIt : (i : Int).toNat = i := by omega
  by_cases hz : N >>> i = 0
  · have hz' : N >>> (i : Int).toNat = 0 := hz
    repeat' first
      | refine CO.cons rfl ?_
      | refine CO.nil ?_
      | refine CV.seq ?_
      | refine CV.region callees ?_
      | refine CV.cond ?_
      | refine CV.exit ?_
      | refine CV.ret ?_
      | (refine ⟨_, fun tm ha => shrUu rfl (ev_tmp ha rfl) (ev_tmp ha rfl) (by omega) (by omega), ?_⟩)
      | (refine ⟨fun _ => ?_, fun _ => ?_⟩ <;> first | (exfalso; omega) | skip)
      | fail
    exact ⟨by simp only [List.all_cons, List.all_nil, hq.notTuple]; rfl, ⟨i, hi, hz, hq⟩, kx⟩
  · have hz' : ¬ N >>> (i : Int).toNat = 0 := hz
    have hi2 : i < 32 := by
      by_cases c : i = 32
      · subst c
        exact absurd (by rw [Nat.shiftRight_eq_div_pow]; exact Nat.div_eq_of_lt hN) hz
      · omega
    repeat' first
      | refine CO.cons rfl ?_
      | refine CO.nil ?_
      | refine CV.seq ?_
      | refine CV.region callees ?_
      | refine CV.cond ?_
      | refine CV.block ?_
      | refine CV.skip ?_
      | (refine ⟨_, fun tm ha => shrUu rfl (ev_tmp ha rfl) (ev_tmp ha rfl) (by omega) (by omega), ?_⟩)
      | (refine ⟨fun _ => ?_, fun _ => ?_⟩ <;> first | (exfalso; omega) | skip)
      | fail
    refine (hasB_spec (by omega) (Nat.lt_trans hN (by decide)) (show i < 64 by omega)).mono ?_
    have hbl := bitsL_len (N := N) (i := i)
    have hsu : bitsL N (i + 1) = bif hasN N i then bitsL N i ++ [(i : Int)] else bitsL N i := rfl
    generalize hasN N i = c at hsu ⊢
    rintro v H2 ⟨rfl, rfl⟩
    cases c
    · repeat' first
        | refine CO.cons rfl ?_
        | refine CO.nil ?_
        | refine CV.region callees ?_
        | refine CV.cond ?_
        | refine CV.skip ?_
        | refine ⟨(⟨by omega, by omega⟩ : inI64 _), ?_⟩
        | fail
      refine ⟨(i + 1, l), (by repeat' first | exact trivial | refine ⟨rfl, ?_⟩ | refine ⟨slot_int (by (try simp only [Int.toNat_natCast]); omega), ?_⟩), (by (try dsimp only); omega), ?_⟩
      exact ⟨by omega, by rw [hsu]; exact hq, kx⟩
    · repeat' first
        | refine CO.cons rfl ?_
        | refine CO.nil ?_
        | refine CV.region callees ?_
        | refine CV.cond ?_
        | refine ⟨_, _, build_one un22 one3 rfl, ?_⟩
        | fail
      refine push_ask hq (by omega) hB (by omega) ?_
      intro l3 H3 hl3 kb3 hf3
      repeat' first
        | refine CO.cons rfl ?_
        | refine CO.nil ?_
        | refine CV.region callees ?_
        | refine ⟨(⟨by omega, by omega⟩ : inI64 _), ?_⟩
        | fail
      refine ⟨(i + 1, l3), (by repeat' first | exact trivial | refine ⟨rfl, ?_⟩ | refine ⟨slot_int (by (try simp only [Int.toNat_natCast]); omega), ?_⟩), (by (try dsimp only); omega), ?_⟩
      exact ⟨by omega, by rw [hsu]; exact hl3, kb3.keep kx (fun c hc => (hq.lt hc).1)⟩
set_option maxRecDepth 100000 in
theorem free_spec {B g0 r0 : Nat} {H : Heap} {gv rv lv : Value} {gs : List Gu} {rs : List Ru} {l : List Int} (hB : B ≤ H.n) (hg : OwnG H gv gs g0) (hr : OwnR H rv rs r0) (hl : Ints H lv l) (hm : rs.length < 1000000) (hn : l.length < 1000000) (hin : ∀ x ∈ l, 0 ≤ x ∧ x < rs.length) :
    CallB Try.prog B 54 [Pav gv rv, lv] H (fun v H' => (∃ c, v = .bool c ∧ (c = true ↔ ∀ x ∈ l, ¬ rs[x.toNat]!.wt = 0)) ∧ Keep H H') := by
  refine CV.enter callees false rfl Try.func54 rfl (by kernel_rfl) (Nat.le_of_ble_eq_true rfl) hB ?_
  repeat' first
    | refine CO.cons rfl ?_
    | refine CV.seq ?_
    | refine CV.region callees ?_
    | fail
  refine ⟨(by simp only [notTuple]), ?_⟩
  rw [boxP hg.row.cells.1 hr.row.cells.1]
  generalize hs0 : Heap.new H _ = H0
  have hg0 := new_get hs0
  have k0 := new_keep hs0
  have n0 := new_n hs0
  obtain ⟨b0, hbn0⟩ : ∃ b, Heap.n H = b := ⟨_, rfl⟩
  rw [hbn0] at hg0 n0 ⊢
  repeat' first
    | refine CO.cons rfl ?_
    | refine CO.nil ?_
    | refine CV.seq ?_
    | refine CV.region callees ?_
    | refine CV.block ?_
    | fail
  refine CV.loopc ?_
  refine WCv.rounds callees false (α := Nat) (fun i => [(1, lv), (2, .pointer (some ⟨b0, 0, none⟩)), (5, VI i)]) (fun i Hz => i ≤ l.length ∧ (∀ j, j < i → ¬ rs[l[j]!.toNat]!.wt = 0) ∧ Keep H0 Hz) (fun i => l.length - i) (0) (by repeat' first | exact trivial | refine ⟨rfl, ?_⟩ | refine ⟨slot_int (by (try simp only [Int.toNat_natCast]); omega), ?_⟩) ?_ ?_
  · exact ⟨by omega, fun j hj => by omega, Keep.refl _⟩
  rintro i Hx ⟨hi, hw, kx⟩ hBx
  have lx := kx.1
  have k0x := k0.trans kx
  have hlx : Ints Hx lv l := Row.keep hl k0x
  have hrx : OwnR Hx rv rs r0 := OwnS.keep hr k0x
  have hPx := (kx.2 b0 (by omega)).trans hg0
  by_cases hi2 : i < l.length
  · have hmem : l[i]! ∈ l := by rw [getElem!_pos l i hi2]; exact List.getElem_mem _
    have hb := hin _ hmem
    have hxi : l[(i : Int).toNat]! = l[i]! := rfl
    have hlt : l[i]!.toNat < rs.length := by omega
    have hwi : rs[l[(i : Int).toNat]!.toNat]!.wt = rs[l[i]!.toNat]!.wt := rfl
    by_cases w : rs[l[i]!.toNat]!.wt = 0
    · repeat' first
        | refine CO.cons rfl ?_
        | refine CO.nil ?_
        | refine CV.seq ?_
        | refine CV.region callees ?_
        | refine CV.cond ?_
        | refine CV.block ?_
        | refine CV.skip ?_
        | refine CV.ret ?_
        | refine CV.draw callees (by decide +kernel) ?_
        | refine CH.cons rfl ?_
        | refine CH.nil ?_
        | refine CH.consG rfl ?_
        | refine ⟨_, ints_len (by assumption), ?_⟩
        | refine ⟨_, ints_addr (by assumption) (by omega) (by omega), ?_⟩
        | refine ⟨_, ints_load (by assumption) (by omega) (by omega), ?_⟩
        | (refine ⟨_, fS foP1 (by decide), ?_⟩)
        | (refine ⟨_, cell_load ag23r hPx rfl, ?_⟩)
        | (refine ⟨_, rs_len hrx.row, ?_⟩)
        | (refine ⟨_, rs_addr hrx.row (by omega) (by omega), ?_⟩)
        | (refine ⟨_, ru_f hrx.row foR3 (by decide) hlt, ?_⟩)
        | (refine ⟨_, ru_l hrx.row (o := 3) hlt rfl, ?_⟩)
        | (refine ⟨fun _ => ?_, fun _ => ?_⟩ <;> first | (exfalso; omega) | skip)
        | fail
      exact ⟨rfl, ⟨false, rfl, ⟨(fun h => by cases h), fun h => absurd w (h _ hmem)⟩⟩, k0x⟩
    · repeat' first
        | refine CO.cons rfl ?_
        | refine CO.nil ?_
        | refine CV.seq ?_
        | refine CV.region callees ?_
        | refine CV.cond ?_
        | refine CV.block ?_
        | refine CV.skip ?_
        | refine CV.draw callees (by decide +kernel) ?_
        | refine CH.cons rfl ?_
        | refine CH.nil ?_
        | refine CH.consG rfl ?_
        | refine ⟨_, ints_len (by assumption), ?_⟩
        | refine ⟨_, ints_addr (by assumption) (by omega) (by omega), ?_⟩
        | refine ⟨_, ints_load (by assumption) (by omega) (by omega), ?_⟩
        | refine ⟨(⟨by omega, by omega⟩ : inI64 _), ?_⟩
        | (refine ⟨_, fS foP1 (by decide), ?_⟩)
        | (refine ⟨_, cell_load ag23r hPx rfl, ?_⟩)
        | (refine ⟨_, rs_len hrx.row, ?_⟩)
        | (refine ⟨_, rs_addr hrx.row (by omega) (by omega), ?_⟩)
        | (refine ⟨_, ru_f hrx.row foR3 (by decide) hlt, ?_⟩)
        | (refine ⟨_, ru_l hrx.row (o := 3) hlt rfl, ?_⟩)
        | (refine ⟨fun _ => ?_, fun _ => ?_⟩ <;> first | (exfalso; omega) | skip)
        | fail
      refine ⟨(i + 1), (by repeat' first | exact trivial | refine ⟨rfl, ?_⟩ | refine ⟨slot_int (by (try simp only [Int.toNat_natCast]); omega), ?_⟩), (by (try dsimp only); omega), ?_⟩
      refine ⟨by omega, fun j hj => ?_, kx⟩
      by_cases e : j = i
      · rw [e]; exact w
      · exact hw j (by omega)
  obtain rfl : i = l.length := by omega
  repeat' first
    | refine CO.cons rfl ?_
    | refine CO.nil ?_
    | refine CV.seq ?_
    | refine CV.region callees ?_
    | refine CV.cond ?_
    | refine CV.exit ?_
    | refine CV.ret ?_
    | refine ⟨_, ints_len (by assumption), ?_⟩
    | (refine ⟨fun _ => ?_, fun _ => ?_⟩ <;> first | (exfalso; omega) | skip)
    | fail
  refine ⟨rfl, ⟨true, rfl, ⟨fun _ x hx => ?_, fun _ => rfl⟩⟩, k0x⟩
  obtain ⟨j, hj, e⟩ := List.getElem_of_mem hx
  have := hw j hj
  rw [getElem!_pos l j hj, e] at this
  exact this
end Go.Proofs.Ytlamceokhbigaaa

