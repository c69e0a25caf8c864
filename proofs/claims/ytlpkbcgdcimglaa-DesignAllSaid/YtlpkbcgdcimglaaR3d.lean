
/- Blocks of a partition, by the program. -/
import Derived.Test.YtlpkbcgdcimglaaR2d
set_option linter.unusedVariables false
set_option linter.unusedSimpArgs false
namespace Go.Proofs.Ytlpkbcgdcimglaa
open Go.AI
set_option linter.unusedVariables false
set_option linter.unusedSimpArgs false
def z9 : List Int := [0, 0, 0, 0, 0, 0, 0, 0, 0]
abbrev Dv (l : List Int) : Value := .agg (l.map VI).toArray
theorem zeroD : zeroCells Try.prog 96 = some (z9.map VI) := by kernel_rfl
theorem allocD {H : Heap} : sAlloc Try.prog H 96 = some (.pointer (some ⟨H.n, 0, none⟩), H.new (Dc z9), H.n) := alloc_of zeroD
theorem agD : isAggB Try.prog 96 = some true := by kernel_rfl
theorem szD : sizeB Try.prog 96 = some 9 := by kernel_rfl
theorem unD : Try.prog.underlying 96 = some (.array 9 3) := by kernel_rfl
theorem loadD {H : Heap} {b : Nat} {l : List Int} (hl : l.length = 9) (hg : H.get b = some (Dc l)) : aload Try.prog 96 H (.pointer (some ⟨b, 0, none⟩)) = some (Dv l) := by
  have : (l.map VI).take 9 = l.map VI := List.take_of_length_le (by rw [List.length_map]; omega)
  simp [aload, hg, agD, szD, hl, this]
theorem storeD {H : Heap} {b : Nat} {l l' : List Int} (hl : l.length = 9) (hl' : l'.length = 9) (hg : H.get b = some (Dc l)) : astore Try.prog 96 H (Dv l') (.pointer (some ⟨b, 0, none⟩)) = some (H.set b (Dc l'), b) :=
  store_all (vs := l'.map VI) hg (by rw [List.length_map, List.length_map, hl, hl']) (by rw [szD, List.length_map, hl']) (by rw [List.all_eq_true]; intro x hx; obtain ⟨y, _, rfl⟩ := List.mem_map.1 hx; rfl)
theorem sliceD {b : Nat} : aslice Try.prog 96 (.pointer (some ⟨b, 0, none⟩)) none none = some (.slice (some ⟨b, 0, none⟩) 9 1) := by
  simp [aslice, unD, sz3, bound]
theorem addrD {b : Nat} {j : Int} (h0 : 0 ≤ j) (h1 : j < 9) : aindexAddr Try.prog 96 (.pointer (some ⟨b, 0, none⟩)) (.int .i64 j) = some (.pointer (some ⟨b, j.toNat, none⟩)) := by
  rw [array_addr unD sz3 h0 h1, Nat.zero_add, Nat.mul_one]
/-- How often each number comes. -/
def histL (l : List Int) : List Int → List Int
  | [] => l
  | c :: cs => histL (l.set c.toNat (l[c.toNat]! + 1)) cs
theorem histL_snoc : ∀ (cs l : List Int) (c : Int), histL l (cs ++ [c]) = (histL l cs).set c.toNat ((histL l cs)[c.toNat]! + 1)
  | [], l, c => rfl
  | e :: cs, l, c => by rw [List.cons_append, histL, histL_snoc cs, histL]
theorem histL_len : ∀ (cs l : List Int), (histL l cs).length = l.length
  | [], _ => rfl
  | e :: cs, l => by rw [histL, histL_len cs, List.length_set]
theorem hist_all : ∀ (n : Nat) (cs : List Int), cs.length = n → AllN (fun x => 0 ≤ x ∧ x ≤ (n : Int)) (histL z9 cs)
  | 0, cs, h => by
    obtain rfl := List.length_eq_zero_iff.1 h
    intro i hi
    have hi : i < 9 := hi
    show 0 ≤ z9[i]! ∧ z9[i]! ≤ ((0 : Nat) : Int)
    have : z9[i]! = 0 := by
      match i, hi with
      | 0, _ => rfl
      | 1, _ => rfl
      | 2, _ => rfl
      | 3, _ => rfl
      | 4, _ => rfl
      | 5, _ => rfl
      | 6, _ => rfl
      | 7, _ => rfl
      | 8, _ => rfl
    omega
  | n + 1, cs, h => by
    have hne : cs ≠ [] := fun h2 => by rw [h2] at h; simp at h
    have e : cs = cs.dropLast ++ [cs.getLast hne] := (List.dropLast_concat_getLast hne).symm
    rw [e, histL_snoc]
    have ih := hist_all n cs.dropLast (by rw [List.length_dropLast]; omega)
    have ih2 : AllN (fun x => 0 ≤ x ∧ x ≤ ((n + 1 : Nat) : Int)) (histL z9 cs.dropLast) := fun i hi => by have := ih i hi; omega
    by_cases hc : (cs.getLast hne).toNat < (histL z9 cs.dropLast).length
    · exact ih2.set (by have := ih _ hc; omega)
    · rw [List.set_eq_of_length_le (by omega)]; exact ih2
def blocksN (p : List Int) : List Int := sortN (histL z9 p) 8
theorem blocks_len (p : List Int) : (blocksN p).length = 9 := by rw [blocksN, sort_len, histL_len]; rfl
theorem blocks_all {p : List Int} (h : p.length ≤ 9) : AllN (fun x => 0 ≤ x ∧ x ≤ 9) (blocksN p) := by
  refine sort_all 8 (by rw [histL_len]; decide) fun i hi => ?_
  have := hist_all p.length p rfl i hi
  omega
set_option maxRecDepth 100000 in
theorem blocksOf_spec {B : Nat} {H : Heap} {v : Value} {p : List Int} (hB : B ≤ H.n) (hv : Ints H v p) (h9 : p.length ≤ 9) (hp : ∀ i, i < p.length → 0 ≤ p[i]! ∧ p[i]! < 9) :
    CallB Try.prog B 83 [v] H (fun r H' => r = Dv (blocksN p) ∧ Keep H H') := by
  refine CV.enter callees false rfl Try.func83 rfl (by kernel_rfl) (Nat.le_of_ble_eq_true rfl) hB ?_
  repeat' first
    | refine CO.cons rfl ?_
    | refine CO.nil ?_
    | refine CV.seq ?_
    | refine CV.region callees ?_
    | refine CV.cond ?_
    | refine CV.block ?_
    | refine CV.skip ?_
    | refine CV.exit ?_
    | refine CV.ret ?_
    | refine CV.scope ?_
    | refine CV.draw callees (by decide +kernel) ?_
    | refine CH.cons rfl ?_
    | refine CH.nil ?_
    | refine CO.consG rfl ?_
    | refine CH.consG rfl ?_
    | refine CG.cons rfl ?_
    | refine CR.cons ?_
    | refine CR.nil ?_
    | refine CG.nil ?_
    | refine CG.consG rfl ?_
    | refine ⟨(rfl : plain _ = true), ?_⟩
    | refine ⟨(rfl : nilOk _ = some _), ?_⟩
    | refine ⟨_, ints_len (by assumption), ?_⟩
    | refine ⟨_, ints_addr (by assumption) (by omega) (by omega), ?_⟩
    | refine ⟨_, ints_load (by assumption) (by omega) (by omega), ?_⟩
    | refine ⟨(⟨by omega, by omega⟩ : inI64 _), ?_⟩
    | refine ⟨_, fun tm ha => step1_max rfl (ev_tmp ha rfl) (ev_tmp ha rfl), ?_⟩
    | refine ⟨_, fun tm ha => step1_min rfl (ev_tmp ha rfl) (ev_tmp ha rfl), ?_⟩
    | (refine ⟨_, _, allocD, ?_⟩)
    | (refine ⟨fun _ => ?_, fun _ => ?_⟩ <;> first | (exfalso; omega) | skip)
    | fail
  generalize hs0 : H.new (Dc z9) = H0
  have hg0 := new_get hs0
  have k0 := new_keep hs0
  have n0 := new_n hs0
  obtain ⟨b0, hb0⟩ : ∃ b0, H.n = b0 := ⟨_, rfl⟩
  rw [hb0] at hg0 n0 ⊢
  generalize hs1 : H0.new (Dc z9) = H1
  have hg1 := new_get hs1
  have k1 := new_keep hs1
  have n1 := new_n hs1
  obtain ⟨b1, hb1⟩ : ∃ b1, H0.n = b1 := ⟨_, rfl⟩
  rw [hb1] at hg1 n1 ⊢
  have k01 := k0.trans k1
  have hv1 : Ints H1 v p := Row.keep hv k01
  have hg01 : H1.get b0 = some (Dc z9) := by rw [k1.2 b0 (by omega)]; exact hg0
  repeat' first
    | refine CO.cons rfl ?_
    | refine CO.nil ?_
    | refine CV.seq ?_
    | refine CV.region callees ?_
    | refine CV.cond ?_
    | refine CV.block ?_
    | refine CV.skip ?_
    | refine CV.exit ?_
    | refine CV.ret ?_
    | refine CV.scope ?_
    | refine CV.draw callees (by decide +kernel) ?_
    | refine CH.cons rfl ?_
    | refine CH.nil ?_
    | refine CO.consG rfl ?_
    | refine CH.consG rfl ?_
    | refine CG.cons rfl ?_
    | refine CR.cons ?_
    | refine CR.nil ?_
    | refine CG.nil ?_
    | refine CG.consG rfl ?_
    | refine ⟨(rfl : plain _ = true), ?_⟩
    | refine ⟨(rfl : nilOk _ = some _), ?_⟩
    | refine ⟨_, ints_len (by assumption), ?_⟩
    | refine ⟨_, ints_addr (by assumption) (by omega) (by omega), ?_⟩
    | refine ⟨_, ints_load (by assumption) (by omega) (by omega), ?_⟩
    | refine ⟨(⟨by omega, by omega⟩ : inI64 _), ?_⟩
    | refine ⟨_, fun tm ha => step1_max rfl (ev_tmp ha rfl) (ev_tmp ha rfl), ?_⟩
    | refine ⟨_, fun tm ha => step1_min rfl (ev_tmp ha rfl) (ev_tmp ha rfl), ?_⟩
    | (refine ⟨fun _ => ?_, fun _ => ?_⟩ <;> first | (exfalso; omega) | skip)
    | fail
  refine CV.loopc ?_
  refine WCv.rounds callees false (α := Nat) (fun i => [(2, .pointer (some ⟨b0, 0, none⟩)), (3, .pointer (some ⟨b1, 0, none⟩)), (6, v), (7, .int .i64 p.length), (8, .int .i64 i)]) (fun i Hz => i ≤ p.length ∧ Hz.n = H1.n ∧ (∀ c, c ≠ b1 → Hz.get c = H1.get c) ∧ Hz.get b1 = some (Dc (histL z9 (p.take i)))) (fun i => p.length - i) (0) (by repeat' first | exact trivial | refine ⟨rfl, ?_⟩ | refine ⟨slot_int (by (try simp only [Int.toNat_natCast]); omega), ?_⟩) ?_ ?_
  · exact ⟨by omega, rfl, fun _ _ => rfl, by simpa [histL] using hg1⟩
  rintro i Hx ⟨hi, nx, ox, gx⟩ hBx
  have kx : Keep H0 Hx := keep_put k1 (by omega) ox nx
  have hvx : Ints Hx v p := Row.keep hv (k0.trans kx)
  have hg0x : Hx.get b0 = some (Dc z9) := by rw [ox b0 (by omega)]; exact hg01
  have lL : (histL z9 (p.take i)).length = 9 := by rw [histL_len]; rfl
  have hal := hist_all i (p.take i) (by rw [List.length_take]; omega)
  by_cases hi2 : i < p.length
  · have hxi : p[(i : Int).toNat]! = p[i]! := rfl
    obtain ⟨c0, c1⟩ := hp i hi2
    have hst : histL z9 (p.take (i + 1)) = (histL z9 (p.take i)).set (p[i]!).toNat ((histL z9 (p.take i))[(p[i]!).toNat]! + 1) := by rw [take_one hi2, histL_snoc]
    generalize histL z9 (p.take i) = L at hst gx lL hal
    have hxc : L[(p[(i : Int).toNat]!).toNat]! = L[(p[i]!).toNat]! := rfl
    have hle := hal (p[i]!).toNat (by omega)
    repeat' first
      | refine CO.cons rfl ?_
      | refine CO.nil ?_
      | refine CV.seq ?_
      | refine CV.region callees ?_
      | refine CV.cond ?_
      | refine CV.block ?_
      | refine CV.skip ?_
      | refine CV.exit ?_
      | refine CV.ret ?_
      | refine CV.scope ?_
      | refine CV.draw callees (by decide +kernel) ?_
      | refine CH.cons rfl ?_
      | refine CH.nil ?_
      | refine CO.consG rfl ?_
      | refine CH.consG rfl ?_
      | refine CG.cons rfl ?_
      | refine CR.cons ?_
      | refine CR.nil ?_
      | refine CG.nil ?_
      | refine CG.consG rfl ?_
      | refine ⟨(rfl : plain _ = true), ?_⟩
      | refine ⟨(rfl : nilOk _ = some _), ?_⟩
      | refine ⟨_, ints_len (by assumption), ?_⟩
      | refine ⟨_, ints_addr (by assumption) (by omega) (by omega), ?_⟩
      | refine ⟨_, ints_load (by assumption) (by omega) (by omega), ?_⟩
      | refine ⟨(⟨by omega, by omega⟩ : inI64 _), ?_⟩
      | refine ⟨_, fun tm ha => step1_max rfl (ev_tmp ha rfl) (ev_tmp ha rfl), ?_⟩
      | refine ⟨_, fun tm ha => step1_min rfl (ev_tmp ha rfl) (ev_tmp ha rfl), ?_⟩
      | (refine ⟨_, addrD (by omega) (by omega), ?_⟩)
      | (refine ⟨_, arr_load gx (by omega), ?_⟩)
      | (refine ⟨fun _ => ?_, fun _ => ?_⟩ <;> first | (exfalso; omega) | skip)
      | fail
    refine ⟨_, _, arr_put gx (by omega), by omega, ?_⟩
    generalize hs8 : Heap.set _ b1 _ = H8
    have g8 := set_get hs8
    have n8 := set_n hs8
    have o8 := set_old hs8
    have g8 : H8.get b1 = some (Dc (histL z9 (p.take (i + 1)))) := by rw [hst]; exact g8
    repeat' first
      | refine CO.cons rfl ?_
      | refine CO.nil ?_
      | refine CV.seq ?_
      | refine CV.region callees ?_
      | refine CV.cond ?_
      | refine CV.block ?_
      | refine CV.skip ?_
      | refine CV.exit ?_
      | refine CV.ret ?_
      | refine CV.scope ?_
      | refine CV.draw callees (by decide +kernel) ?_
      | refine CH.cons rfl ?_
      | refine CH.nil ?_
      | refine CO.consG rfl ?_
      | refine CH.consG rfl ?_
      | refine CG.cons rfl ?_
      | refine CR.cons ?_
      | refine CR.nil ?_
      | refine CG.nil ?_
      | refine CG.consG rfl ?_
      | refine ⟨(rfl : plain _ = true), ?_⟩
      | refine ⟨(rfl : nilOk _ = some _), ?_⟩
      | refine ⟨_, ints_len (by assumption), ?_⟩
      | refine ⟨_, ints_addr (by assumption) (by omega) (by omega), ?_⟩
      | refine ⟨_, ints_load (by assumption) (by omega) (by omega), ?_⟩
      | refine ⟨(⟨by omega, by omega⟩ : inI64 _), ?_⟩
      | refine ⟨_, fun tm ha => step1_max rfl (ev_tmp ha rfl) (ev_tmp ha rfl), ?_⟩
      | refine ⟨_, fun tm ha => step1_min rfl (ev_tmp ha rfl) (ev_tmp ha rfl), ?_⟩
      | (refine ⟨fun _ => ?_, fun _ => ?_⟩ <;> first | (exfalso; omega) | skip)
      | fail
    refine ⟨(i + 1), (by repeat' first | exact trivial | refine ⟨rfl, ?_⟩ | refine ⟨slot_int (by (try simp only [Int.toNat_natCast]); omega), ?_⟩), (by (try dsimp only); omega), ?_⟩
    exact ⟨by omega, by omega, fun c hc => by rw [o8 c hc, ox c hc], g8⟩
  · have hil : i = p.length := by omega
    subst hil
    rw [List.take_length] at gx lL hal
    repeat' first
      | refine CO.cons rfl ?_
      | refine CO.nil ?_
      | refine CV.seq ?_
      | refine CV.region callees ?_
      | refine CV.cond ?_
      | refine CV.block ?_
      | refine CV.skip ?_
      | refine CV.exit ?_
      | refine CV.ret ?_
      | refine CV.scope ?_
      | refine CV.draw callees (by decide +kernel) ?_
      | refine CH.cons rfl ?_
      | refine CH.nil ?_
      | refine CO.consG rfl ?_
      | refine CH.consG rfl ?_
      | refine CG.cons rfl ?_
      | refine CR.cons ?_
      | refine CR.nil ?_
      | refine CG.nil ?_
      | refine CG.consG rfl ?_
      | refine ⟨(rfl : plain _ = true), ?_⟩
      | refine ⟨(rfl : nilOk _ = some _), ?_⟩
      | refine ⟨_, ints_len (by assumption), ?_⟩
      | refine ⟨_, ints_addr (by assumption) (by omega) (by omega), ?_⟩
      | refine ⟨_, ints_load (by assumption) (by omega) (by omega), ?_⟩
      | refine ⟨(⟨by omega, by omega⟩ : inI64 _), ?_⟩
      | refine ⟨_, fun tm ha => step1_max rfl (ev_tmp ha rfl) (ev_tmp ha rfl), ?_⟩
      | refine ⟨_, fun tm ha => step1_min rfl (ev_tmp ha rfl) (ev_tmp ha rfl), ?_⟩
      | (refine ⟨_, sliceD, ?_⟩)
      | (refine ⟨fun _ => ?_, fun _ => ?_⟩ <;> first | (exfalso; omega) | skip)
      | fail
    refine (sort_spec (by omega) (by omega) (by omega) gx lL (fun i hi => by have := hal i hi; omega)).mono ?_
    rintro r H9 ⟨g9, n9, o9⟩
    have g9 : H9.get b1 = some (Dc (blocksN p)) := g9
    have hg9 : H9.get b0 = some (Dc z9) := by rw [o9 b0 (by omega)]; exact hg0x
    repeat' first
      | refine CO.cons rfl ?_
      | refine CO.nil ?_
      | refine CV.seq ?_
      | refine CV.region callees ?_
      | refine CV.cond ?_
      | refine CV.block ?_
      | refine CV.skip ?_
      | refine CV.exit ?_
      | refine CV.ret ?_
      | refine CV.scope ?_
      | refine CV.draw callees (by decide +kernel) ?_
      | refine CH.cons rfl ?_
      | refine CH.nil ?_
      | refine CO.consG rfl ?_
      | refine CH.consG rfl ?_
      | refine CG.cons rfl ?_
      | refine CR.cons ?_
      | refine CR.nil ?_
      | refine CG.nil ?_
      | refine CG.consG rfl ?_
      | refine ⟨(rfl : plain _ = true), ?_⟩
      | refine ⟨(rfl : nilOk _ = some _), ?_⟩
      | refine ⟨_, ints_len (by assumption), ?_⟩
      | refine ⟨_, ints_addr (by assumption) (by omega) (by omega), ?_⟩
      | refine ⟨_, ints_load (by assumption) (by omega) (by omega), ?_⟩
      | refine ⟨(⟨by omega, by omega⟩ : inI64 _), ?_⟩
      | refine ⟨_, fun tm ha => step1_max rfl (ev_tmp ha rfl) (ev_tmp ha rfl), ?_⟩
      | refine ⟨_, fun tm ha => step1_min rfl (ev_tmp ha rfl) (ev_tmp ha rfl), ?_⟩
      | (refine ⟨_, loadD (blocks_len p) g9, ?_⟩)
      | (refine ⟨fun _ => ?_, fun _ => ?_⟩ <;> first | (exfalso; omega) | skip)
      | fail
    refine ⟨_, _, storeD (l := z9) rfl (blocks_len p) hg9, by omega, ?_⟩
    generalize hsa : Heap.set _ b0 _ = Ha
    have ga := set_get hsa
    have na := set_n hsa
    have k9 : Keep H0 H9 := keep_put kx (by omega) o9 n9
    repeat' first
      | refine CO.cons rfl ?_
      | refine CO.nil ?_
      | refine CV.seq ?_
      | refine CV.region callees ?_
      | refine CV.cond ?_
      | refine CV.block ?_
      | refine CV.skip ?_
      | refine CV.exit ?_
      | refine CV.ret ?_
      | refine CV.scope ?_
      | refine CV.draw callees (by decide +kernel) ?_
      | refine CH.cons rfl ?_
      | refine CH.nil ?_
      | refine CO.consG rfl ?_
      | refine CH.consG rfl ?_
      | refine CG.cons rfl ?_
      | refine CR.cons ?_
      | refine CR.nil ?_
      | refine CG.nil ?_
      | refine CG.consG rfl ?_
      | refine ⟨(rfl : plain _ = true), ?_⟩
      | refine ⟨(rfl : nilOk _ = some _), ?_⟩
      | refine ⟨_, ints_len (by assumption), ?_⟩
      | refine ⟨_, ints_addr (by assumption) (by omega) (by omega), ?_⟩
      | refine ⟨_, ints_load (by assumption) (by omega) (by omega), ?_⟩
      | refine ⟨(⟨by omega, by omega⟩ : inI64 _), ?_⟩
      | refine ⟨_, fun tm ha => step1_max rfl (ev_tmp ha rfl) (ev_tmp ha rfl), ?_⟩
      | refine ⟨_, fun tm ha => step1_min rfl (ev_tmp ha rfl) (ev_tmp ha rfl), ?_⟩
      | (refine ⟨fun _ => ?_, fun _ => ?_⟩ <;> first | (exfalso; omega) | skip)
      | fail
    exact ⟨_, loadD (blocks_len p) ga, rfl, rfl, keep_put (k0.trans k9) (by omega) (set_old hsa) na⟩
end Go.Proofs.Ytlpkbcgdcimglaa
