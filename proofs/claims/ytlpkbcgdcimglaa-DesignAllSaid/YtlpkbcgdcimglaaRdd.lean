
/- How many ways each partition has: Shapes. -/
import Derived.Test.YtlpkbcgdcimglaaRcd
set_option linter.unusedVariables false
set_option linter.unusedSimpArgs false
namespace Go.Proofs.Ytlpkbcgdcimglaa
open Go.AI
set_option linter.unusedVariables false
set_option linter.unusedSimpArgs false
def bsL (n : Nat) : List (List Int) := (List.range (cntR n).1.toNat).map fun (r : Nat) => blocksN (unL n r)
theorem bsL_len {n : Nat} : (bsL n).length = (cntR n).1.toNat := by simp [bsL]
theorem bsL_rows {n : Nat} : (bsL n).map (fun b => b.map VI) = rowsI n (cntR n).1.toNat (cntR n).1.toNat := by
  apply List.ext_getElem
  · simp [bsL, rowsI]
  · intro i h1 h2
    have hi : i < (cntR n).1.toNat := by simpa [bsL] using h1
    simp only [rowsI, bsL, List.getElem_map, List.getElem_range]
    rw [if_pos hi]
theorem bsL_facts {n : Nat} (h1 : 1 ≤ n) (h6 : n ≤ 6) : ∀ i, i < (bsL n).length → (bsL n)[i]! ∈ keysB ∧ (bsL n)[i]!.length = 9 ∧ AllN (fun x => 0 ≤ x ∧ x ≤ 9) (bsL n)[i]! ∧ remS (bsL n)[i]! 9 ≤ 9 := fun i hi => by
  have hi2 : i < (cntR n).1.toNat := by rw [← bsL_len]; exact hi
  have e : (bsL n)[i]! = blocksN (unL n i) := by rw [getElem!_pos _ i hi]; simp [bsL]
  obtain ⟨u1, u2, u3, u4⟩ := un_facts h1 h6 hi2
  have hb := blocks_all (p := unL n i) (by omega)
  have hs := rem_sum (blocks_len (unL n i)) hb
  rw [blocks_sum u3] at hs
  rw [e]
  exact ⟨keys_mem h1 h6 hi2, blocks_len _, hb, by omega⟩
theorem pad_all {xs : List Int} (h6 : xs.length ≤ 6) (h : ∀ i, i < xs.length → 1 ≤ xs[i]! ∧ xs[i]! ≤ 9) : AllN (fun x => 0 ≤ x ∧ x ≤ 9) (pad xs) := fun i hi => by
  rw [pad_len h6] at hi
  by_cases h1 : i < xs.length
  · rw [pad, app_left h1]; have := h i h1; omega
  · rw [pad, app_zero (by omega) (by omega)]; decide
/-- In how many ways each partition comes. -/
def shapesL (xs : List Int) (n : Nat) : List Int := outL (bsL n) (fun b => waysN b 9 (pad xs)) (bsL n).length
set_option maxRecDepth 100000 in
theorem Shapes_spec {B : Nat} {H : Heap} {k : Value} {xs : List Int} {d : Int} (hB : B ≤ H.n) (hv : Ints H k xs) (hS : SV xs d) (h6 : d ≤ 6) :
    CallB Try.prog B 34 [Kv k d] H (fun r H' => (∃ l, r = .tuple #[l, .int .i64 0] ∧ Own 3 H' l ((shapesL xs d.toNat).map VI) H.n) ∧ Keep H H') := by
  obtain ⟨s1, s2, s3, s4, s5, s6⟩ := id hS
  have hdn : d = ((d.toNat : Nat) : Int) := by omega
  refine CV.enter callees false rfl Try.func34 rfl (by kernel_rfl) (Nat.le_of_ble_eq_true rfl) hB ?_
  repeat' first
    | refine CO.cons rfl ?_
    | refine CO.nil ?_
    | refine CV.seq ?_
    | refine CV.region callees ?_
    | refine CV.cond ?_
    | refine CV.block ?_
    | refine CV.skip ?_
    | refine CV.exit ?_
    | refine CV.ret ?_
    | refine CV.scope ?_
    | refine CV.draw callees (by decide +kernel) ?_
    | refine CH.cons rfl ?_
    | refine CH.nil ?_
    | refine CO.consG rfl ?_
    | refine CH.consG rfl ?_
    | refine CG.cons rfl ?_
    | refine CR.cons ?_
    | refine CR.nil ?_
    | refine CG.nil ?_
    | refine CG.consG rfl ?_
    | refine ⟨(rfl : plain _ = true), ?_⟩
    | refine ⟨(rfl : nilOk _ = some _), ?_⟩
    | refine ⟨_, ints_len (by assumption), ?_⟩
    | refine ⟨_, ints_addr (by assumption) (by omega) (by omega), ?_⟩
    | refine ⟨_, ints_load (by assumption) (by omega) (by omega), ?_⟩
    | refine ⟨(⟨by omega, by omega⟩ : inI64 _), ?_⟩
    | refine ⟨_, fun tm ha => step1_max rfl (ev_tmp ha rfl) (ev_tmp ha rfl), ?_⟩
    | refine ⟨_, fun tm ha => step1_min rfl (ev_tmp ha rfl) (ev_tmp ha rfl), ?_⟩
    | (refine ⟨fun _ => ?_, fun _ => ?_⟩ <;> first | (exfalso; omega) | skip)
    | fail
  refine ⟨(by simp only [notTuple]), ?_⟩
  rw [alloc_k (row_one hv)]
  generalize hs0 : H.new (Kc k d) = H0
  have hgk := new_get hs0
  have k0 := new_keep hs0
  have n0 := new_n hs0
  have hv0 : Ints H0 k xs := Row.keep hv k0
  obtain ⟨bk, hbk⟩ : ∃ bk, H.n = bk := ⟨_, rfl⟩
  rw [hbk] at hgk n0 ⊢
  repeat' first
    | refine CO.cons rfl ?_
    | refine CO.nil ?_
    | refine CV.seq ?_
    | refine CV.region callees ?_
    | refine CV.cond ?_
    | refine CV.block ?_
    | refine CV.skip ?_
    | refine CV.exit ?_
    | refine CV.ret ?_
    | refine CV.scope ?_
    | refine CV.draw callees (by decide +kernel) ?_
    | refine CH.cons rfl ?_
    | refine CH.nil ?_
    | refine CO.consG rfl ?_
    | refine CH.consG rfl ?_
    | refine CG.cons rfl ?_
    | refine CR.cons ?_
    | refine CR.nil ?_
    | refine CG.nil ?_
    | refine CG.consG rfl ?_
    | refine ⟨(rfl : plain _ = true), ?_⟩
    | refine ⟨(rfl : nilOk _ = some _), ?_⟩
    | refine ⟨_, ints_len (by assumption), ?_⟩
    | refine ⟨_, ints_addr (by assumption) (by omega) (by omega), ?_⟩
    | refine ⟨_, ints_load (by assumption) (by omega) (by omega), ?_⟩
    | refine ⟨(⟨by omega, by omega⟩ : inI64 _), ?_⟩
    | refine ⟨_, fun tm ha => step1_max rfl (ev_tmp ha rfl) (ev_tmp ha rfl), ?_⟩
    | refine ⟨_, fun tm ha => step1_min rfl (ev_tmp ha rfl) (ev_tmp ha rfl), ?_⟩
    | (refine ⟨_, loadK hgk, ?_⟩)
    | (refine ⟨fun _ => ?_, fun _ => ?_⟩ <;> first | (exfalso; omega) | skip)
    | fail
  refine (check_spec (by omega) hv0 hS).mono ?_
  rintro r H1 ⟨rfl, k1⟩
  have l1 := k1.1
  have hg1 : H1.get bk = some (Kc k d) := by rw [k1.2 bk (by omega)]; exact hgk
  have hv1 : Ints H1 k xs := Row.keep hv0 k1
  repeat' first
    | refine CO.cons rfl ?_
    | refine CO.nil ?_
    | refine CV.seq ?_
    | refine CV.region callees ?_
    | refine CV.cond ?_
    | refine CV.block ?_
    | refine CV.skip ?_
    | refine CV.exit ?_
    | refine CV.ret ?_
    | refine CV.scope ?_
    | refine CV.draw callees (by decide +kernel) ?_
    | refine CH.cons rfl ?_
    | refine CH.nil ?_
    | refine CO.consG rfl ?_
    | refine CH.consG rfl ?_
    | refine CG.cons rfl ?_
    | refine CR.cons ?_
    | refine CR.nil ?_
    | refine CG.nil ?_
    | refine CG.consG rfl ?_
    | refine ⟨(rfl : plain _ = true), ?_⟩
    | refine ⟨(rfl : nilOk _ = some _), ?_⟩
    | refine ⟨_, ints_len (by assumption), ?_⟩
    | refine ⟨_, ints_addr (by assumption) (by omega) (by omega), ?_⟩
    | refine ⟨_, ints_load (by assumption) (by omega) (by omega), ?_⟩
    | refine ⟨(⟨by omega, by omega⟩ : inI64 _), ?_⟩
    | refine ⟨_, fun tm ha => step1_max rfl (ev_tmp ha rfl) (ev_tmp ha rfl), ?_⟩
    | refine ⟨_, fun tm ha => step1_min rfl (ev_tmp ha rfl) (ev_tmp ha rfl), ?_⟩
    | refine CV.wideR callees (by decide +kernel) [(0, []), (1, []), (3, []), (4, []), (2, [4]), (5, []), (6, []), (7, []), (8, [])] (by kernel_rfl) ?_
    | (refine ⟨_, addrK0, ?_⟩)
    | (refine ⟨_, addrK1, ?_⟩)
    | (refine ⟨Value.int .i64 d, cell_load ag3 hg1 rfl, ?_⟩)
    | (refine ⟨_, cell_load ag22 hg1 rfl, ?_⟩)
    | (refine ⟨fun _ => ?_, fun _ => ?_⟩ <;> first | (exfalso; omega) | skip)
    | fail
  refine (mixed_spec (by omega) hv1 s2).mono ?_
  rintro r H2 ⟨rfl, k2⟩
  have l2 := k2.1
  have hg2 : H2.get bk = some (Kc k d) := by rw [k2.2 bk (by omega)]; exact hg1
  repeat' first
    | refine CO.cons rfl ?_
    | refine CO.nil ?_
    | refine CV.seq ?_
    | refine CV.region callees ?_
    | refine CV.cond ?_
    | refine CV.block ?_
    | refine CV.skip ?_
    | refine CV.exit ?_
    | refine CV.ret ?_
    | refine CV.scope ?_
    | refine CV.draw callees (by decide +kernel) ?_
    | refine CH.cons rfl ?_
    | refine CH.nil ?_
    | refine CO.consG rfl ?_
    | refine CH.consG rfl ?_
    | refine CG.cons rfl ?_
    | refine CR.cons ?_
    | refine CR.nil ?_
    | refine CG.nil ?_
    | refine CG.consG rfl ?_
    | refine ⟨(rfl : plain _ = true), ?_⟩
    | refine ⟨(rfl : nilOk _ = some _), ?_⟩
    | refine ⟨_, ints_len (by assumption), ?_⟩
    | refine ⟨_, ints_addr (by assumption) (by omega) (by omega), ?_⟩
    | refine ⟨_, ints_load (by assumption) (by omega) (by omega), ?_⟩
    | refine ⟨(⟨by omega, by omega⟩ : inI64 _), ?_⟩
    | refine ⟨_, fun tm ha => step1_max rfl (ev_tmp ha rfl) (ev_tmp ha rfl), ?_⟩
    | refine ⟨_, fun tm ha => step1_min rfl (ev_tmp ha rfl) (ev_tmp ha rfl), ?_⟩
    | (refine ⟨(rfl : _ = Value.int _ _), ?_⟩)
    | (refine ⟨same_int, ?_⟩)
    | (refine ⟨Value.int .i64 d, cell_load ag3 hg2 rfl, ?_⟩)
    | (refine ⟨fun _ => ?_, fun _ => ?_⟩ <;> first | (exfalso; omega) | skip)
    | fail
  have hab := allBlocks_spec (B := B) (H := H2) (n := d.toNat) (by omega) (by omega) (by omega)
  rw [← hdn] at hab
  refine hab.mono ?_
  rintro sl H3 ⟨hsl, k3⟩
  have l3 := k3.1
  have hsl := hsl.row
  rw [show rowsI d.toNat (cntR d).1.toNat (cntR d).1.toNat = (bsL d.toNat).map (fun b => b.map VI) by rw [bsL_rows, ← hdn]] at hsl
  have hcs := cnt_small (n := d.toNat) (by omega) (by omega)
  have hbl := bsL_len (n := d.toNat)
  repeat' first
    | refine CO.cons rfl ?_
    | refine CO.nil ?_
    | refine CV.seq ?_
    | refine CV.region callees ?_
    | refine CV.cond ?_
    | refine CV.block ?_
    | refine CV.skip ?_
    | refine CV.exit ?_
    | refine CV.ret ?_
    | refine CV.scope ?_
    | refine CV.draw callees (by decide +kernel) ?_
    | refine CH.cons rfl ?_
    | refine CH.nil ?_
    | refine CO.consG rfl ?_
    | refine CH.consG rfl ?_
    | refine CG.cons rfl ?_
    | refine CR.cons ?_
    | refine CR.nil ?_
    | refine CG.nil ?_
    | refine CG.consG rfl ?_
    | refine ⟨(rfl : plain _ = true), ?_⟩
    | refine ⟨(rfl : nilOk _ = some _), ?_⟩
    | refine ⟨_, ints_len (by assumption), ?_⟩
    | refine ⟨_, ints_addr (by assumption) (by omega) (by omega), ?_⟩
    | refine ⟨_, ints_load (by assumption) (by omega) (by omega), ?_⟩
    | refine ⟨(⟨by omega, by omega⟩ : inI64 _), ?_⟩
    | refine ⟨_, fun tm ha => step1_max rfl (ev_tmp ha rfl) (ev_tmp ha rfl), ?_⟩
    | refine ⟨_, fun tm ha => step1_min rfl (ev_tmp ha rfl) (ev_tmp ha rfl), ?_⟩
    | (refine ⟨fun _ => ?_, fun _ => ?_⟩ <;> first | (exfalso; omega) | skip)
    | fail
  refine (shapes_spec (by omega) hsl (by omega) (bsL_facts (by omega) (by omega)) (pad_len s2) (pad_all s2 s3)).mono ?_
  rintro l H4 ⟨hl, k4⟩
  have l4 := k4.1
  repeat' first
    | refine CO.cons rfl ?_
    | refine CO.nil ?_
    | refine CV.seq ?_
    | refine CV.region callees ?_
    | refine CV.cond ?_
    | refine CV.block ?_
    | refine CV.skip ?_
    | refine CV.exit ?_
    | refine CV.ret ?_
    | refine CV.scope ?_
    | refine CV.draw callees (by decide +kernel) ?_
    | refine CH.cons rfl ?_
    | refine CH.nil ?_
    | refine CO.consG rfl ?_
    | refine CH.consG rfl ?_
    | refine CG.cons rfl ?_
    | refine CR.cons ?_
    | refine CR.nil ?_
    | refine CG.nil ?_
    | refine CG.consG rfl ?_
    | refine ⟨(rfl : plain _ = true), ?_⟩
    | refine ⟨(rfl : nilOk _ = some _), ?_⟩
    | refine ⟨_, ints_len (by assumption), ?_⟩
    | refine ⟨_, ints_addr (by assumption) (by omega) (by omega), ?_⟩
    | refine ⟨_, ints_load (by assumption) (by omega) (by omega), ?_⟩
    | refine ⟨(⟨by omega, by omega⟩ : inI64 _), ?_⟩
    | refine ⟨_, fun tm ha => step1_max rfl (ev_tmp ha rfl) (ev_tmp ha rfl), ?_⟩
    | refine ⟨_, fun tm ha => step1_min rfl (ev_tmp ha rfl) (ev_tmp ha rfl), ?_⟩
    | (refine ⟨fun _ => ?_, fun _ => ?_⟩ <;> first | (exfalso; omega) | skip)
    | fail
  exact ⟨by simp only [List.all_cons, List.all_nil, hl.notTuple]; rfl, ⟨l, rfl, (by rcases hl with h | ⟨b, h1, h2, h3, h4⟩; exact .inl h; exact .inr ⟨b, h1, by omega, h3, h4⟩)⟩, k0.trans (k1.trans (k2.trans (k3.trans k4)))⟩
end Go.Proofs.Ytlpkbcgdcimglaa
