
/- What counting alone tells of a course so far, by the program. -/
import Derived.Test.YtlpkbcgdcimglaaQ3d
set_option linter.unusedVariables false
set_option linter.unusedSimpArgs false
namespace Go.Proofs.Ytlpkbcgdcimglaa
open Go.AI
set_option linter.unusedVariables false
set_option linter.unusedSimpArgs false
theorem cell_store {H : Heap} {b i : Nat} {cs : List Value} {e t : TypeId} {k : Nat} {v : Value} (hs : sizeB Try.prog t = some 1) (hg : H.get b = some (.cells cs e (k + 1))) (hi : i < cs.length) (hv : oneC v = true) : astore Try.prog t H v (.pointer (some ⟨b, i, none⟩)) = some (H.set b (.cells (cs.set i v) e (k + 1)), b) := store_row hs hg hi hv
def pad (xs : List Int) : List Int := xs ++ List.replicate (6 - xs.length) 0
def z6 : List Int := [0, 0, 0, 0, 0, 0]
theorem pad_len {xs : List Int} (h : xs.length ≤ 6) : (pad xs).length = 6 := by simp [pad]; omega
theorem z6_drop : ∀ n, n ≤ 6 → z6.drop n = List.replicate (6 - n) 0
  | 0, _ => rfl
  | 1, _ => rfl
  | 2, _ => rfl
  | 3, _ => rfl
  | 4, _ => rfl
  | 5, _ => rfl
  | 6, _ => rfl
  | n + 7, h => by omega
theorem leftL_app : ∀ (cs xs ys : List Int), (∀ i, i < cs.length → 0 ≤ cs[i]! ∧ cs[i]! < xs.length) → leftL (xs ++ ys) cs = leftL xs cs ++ ys
  | [], _, _, _ => rfl
  | c :: cs, xs, ys, h => by
    have h0 := h 0 (by simp)
    have hc : 0 ≤ c ∧ c < xs.length := h0
    have hn : c.toNat < xs.length := by omega
    have e : (xs ++ ys)[c.toNat]! = xs[c.toNat]! := by rw [getElem!_pos (xs ++ ys) _ (by rw [List.length_append]; omega), List.getElem_append_left hn, getElem!_pos xs _ hn]
    rw [leftL, leftL, e, List.set_append_left _ _ hn, leftL_app cs _ ys fun i hi => by
      have := h (i + 1) (by simp; omega)
      rw [cons_at hi] at this
      rw [List.length_set]; exact this]
theorem app_left {l ys : List Int} {k : Nat} (h : k < l.length) : (l ++ ys)[k]! = l[k]! := by
  rw [getElem!_pos (l ++ ys) _ (by rw [List.length_append]; omega), List.getElem_append_left h, getElem!_pos l _ h]
theorem app_zero {l : List Int} {n k : Nat} (h : l.length ≤ k) (h2 : k < l.length + n) : (l ++ List.replicate n (0 : Int))[k]! = 0 := by
  rw [getElem!_pos _ _ (by simp; omega), List.getElem_append_right h, List.getElem_replicate]
abbrev Pc (l : List Int) : AObj := .cells (l.map VI) 92 1
abbrev Pv (l : List Int) : Value := .agg (l.map VI).toArray
theorem zeroP : zeroCells Try.prog 92 = some (z6.map VI) := by kernel_rfl
theorem allocP {H : Heap} : sAlloc Try.prog H 92 = some (.pointer (some ⟨H.n, 0, none⟩), H.new (Pc z6), H.n) := alloc_of zeroP
theorem agP : isAggB Try.prog 92 = some true := by kernel_rfl
theorem szP : sizeB Try.prog 92 = some 6 := by kernel_rfl
theorem unP : Try.prog.underlying 92 = some (.array 6 3) := by kernel_rfl
theorem loadP {H : Heap} {b : Nat} {l : List Int} (hl : l.length = 6) (hg : H.get b = some (Pc l)) : aload Try.prog 92 H (.pointer (some ⟨b, 0, none⟩)) = some (Pv l) := by
  have : (l.map VI).take 6 = l.map VI := List.take_of_length_le (by rw [List.length_map]; omega)
  simp [aload, hg, agP, szP, hl, this]
theorem storeP {H : Heap} {b : Nat} {l l' : List Int} (hl : l.length = 6) (hl' : l'.length = 6) (hg : H.get b = some (Pc l)) : astore Try.prog 92 H (Pv l') (.pointer (some ⟨b, 0, none⟩)) = some (H.set b (Pc l'), b) :=
  store_all (vs := l'.map VI) hg (by rw [List.length_map, List.length_map, hl, hl']) (by rw [szP, List.length_map, hl']) (by rw [List.all_eq_true]; intro x hx; obtain ⟨y, _, rfl⟩ := List.mem_map.1 hx; rfl)
theorem sliceP {b : Nat} : aslice Try.prog 92 (.pointer (some ⟨b, 0, none⟩)) none none = some (.slice (some ⟨b, 0, none⟩) 6 1) := by
  simp [aslice, unP, sz3, bound]
theorem addrP {b : Nat} {j : Int} (h0 : 0 ≤ j) (h1 : j < 6) : aindexAddr Try.prog 92 (.pointer (some ⟨b, 0, none⟩)) (.int .i64 j) = some (.pointer (some ⟨b, j.toNat, none⟩)) := by
  rw [array_addr unP sz3 h0 h1, Nat.zero_add, Nat.mul_one]
theorem indexP {l : List Int} {j : Int} (hl : l.length = 6) (h0 : 0 ≤ j) (h1 : j < 6) : aindex Try.prog 92 (Pv l) (.int .i64 j) = some (VI l[j.toNat]!) := by
  have hj : j.toNat < l.length := by omega
  simp only [aindex, asIdx, unP, sz3]
  rw [if_pos ⟨h0, h1⟩]
  simp only [apart', ag3, Nat.mul_one]
  rw [List.getElem?_map, List.getElem?_eq_getElem hj, getElem!_pos l _ hj]; rfl
theorem copyP {H : Heap} {b : Nat} {v : Value} {xs : List Int} (hg : H.get b = some (Pc z6)) (hv : Ints H v xs) (h6 : xs.length ≤ 6) :
    acopy Try.prog H [22, 22] (.slice (some ⟨b, 0, none⟩) 6 1) v = some (.int .i64 (xs.length : Nat), H.set b (Pc (pad xs)), b) := by
  have hs : sourceOf H 1 v = some (xs.map VI, (xs.map VI).length) := Row.source hv
  have hm : min (xs.map VI).length 6 = xs.length := by rw [List.length_map]; omega
  have he : splice (z6.map VI) 0 ((xs.map VI).take (xs.length * 1)) = (pad xs).map VI := by
    rw [Nat.mul_one, List.take_of_length_le (by rw [List.length_map]; omega), splice_from _ _ _ (by rw [List.length_map]; show 0 + xs.length ≤ 6; omega), List.take_zero, List.nil_append, Nat.zero_add, List.length_map, ← List.map_drop, z6_drop _ h6, pad, List.map_append]
  simp only [acopy, un22, sz3, hs, hg, hm, he]
  rw [if_pos (by show 0 + xs.length * 1 ≤ 6; omega)]
set_option maxRecDepth 100000 in
theorem mixed_spec {B : Nat} {H : Heap} {v : Value} {xs : List Int} (hB : B ≤ H.n) (hv : Ints H v xs) (h6 : xs.length ≤ 6) :
    CallB Try.prog B 81 [v] H (fun r H' => r = Pv (pad xs) ∧ Keep H H') := by
  refine CV.enter callees false rfl Try.func81 rfl (by kernel_rfl) (Nat.le_of_ble_eq_true rfl) hB ?_
  repeat' first
    | refine CO.cons rfl ?_
    | refine CO.nil ?_
    | refine CV.seq ?_
    | refine CV.region callees ?_
    | refine CV.cond ?_
    | refine CV.block ?_
    | refine CV.skip ?_
    | refine CV.exit ?_
    | refine CV.ret ?_
    | refine CV.scope ?_
    | refine CV.draw callees (by decide +kernel) ?_
    | refine CH.cons rfl ?_
    | refine CH.nil ?_
    | refine CO.consG rfl ?_
    | refine CH.consG rfl ?_
    | refine CG.cons rfl ?_
    | refine CR.cons ?_
    | refine CR.nil ?_
    | refine CG.nil ?_
    | refine CG.consG rfl ?_
    | refine ⟨(rfl : plain _ = true), ?_⟩
    | refine ⟨(rfl : nilOk _ = some _), ?_⟩
    | refine ⟨_, ints_len (by assumption), ?_⟩
    | refine ⟨_, ints_addr (by assumption) (by omega) (by omega), ?_⟩
    | refine ⟨_, ints_load (by assumption) (by omega) (by omega), ?_⟩
    | refine ⟨(⟨by omega, by omega⟩ : inI64 _), ?_⟩
    | refine ⟨_, fun tm ha => step1_max rfl (ev_tmp ha rfl) (ev_tmp ha rfl), ?_⟩
    | refine ⟨_, fun tm ha => step1_min rfl (ev_tmp ha rfl) (ev_tmp ha rfl), ?_⟩
    | (refine ⟨_, _, allocP, ?_⟩)
    | (refine ⟨fun _ => ?_, fun _ => ?_⟩ <;> first | (exfalso; omega) | skip)
    | fail
  generalize hs0 : H.new (Pc z6) = H0
  have hg0 := new_get hs0
  have k0 := new_keep hs0
  have n0 := new_n hs0
  obtain ⟨b0, hb0⟩ : ∃ b0, H.n = b0 := ⟨_, rfl⟩
  rw [hb0] at hg0 n0 ⊢
  generalize hs1 : H0.new (Pc z6) = H1
  have hg1 := new_get hs1
  have k1 := new_keep hs1
  have n1 := new_n hs1
  obtain ⟨b1, hb1⟩ : ∃ b1, H0.n = b1 := ⟨_, rfl⟩
  rw [hb1] at hg1 n1 ⊢
  have hv1 : Ints H1 v xs := Row.keep (Row.keep hv k0) k1
  repeat' first
    | refine CO.cons rfl ?_
    | refine CO.nil ?_
    | refine CV.seq ?_
    | refine CV.region callees ?_
    | refine CV.cond ?_
    | refine CV.block ?_
    | refine CV.skip ?_
    | refine CV.exit ?_
    | refine CV.ret ?_
    | refine CV.scope ?_
    | refine CV.draw callees (by decide +kernel) ?_
    | refine CH.cons rfl ?_
    | refine CH.nil ?_
    | refine CO.consG rfl ?_
    | refine CH.consG rfl ?_
    | refine CG.cons rfl ?_
    | refine CR.cons ?_
    | refine CR.nil ?_
    | refine CG.nil ?_
    | refine CG.consG rfl ?_
    | refine ⟨(rfl : plain _ = true), ?_⟩
    | refine ⟨(rfl : nilOk _ = some _), ?_⟩
    | refine ⟨_, ints_len (by assumption), ?_⟩
    | refine ⟨_, ints_addr (by assumption) (by omega) (by omega), ?_⟩
    | refine ⟨_, ints_load (by assumption) (by omega) (by omega), ?_⟩
    | refine ⟨(⟨by omega, by omega⟩ : inI64 _), ?_⟩
    | refine ⟨_, fun tm ha => step1_max rfl (ev_tmp ha rfl) (ev_tmp ha rfl), ?_⟩
    | refine ⟨_, fun tm ha => step1_min rfl (ev_tmp ha rfl) (ev_tmp ha rfl), ?_⟩
    | (refine ⟨_, sliceP, ?_⟩)
    | (refine ⟨fun _ => ?_, fun _ => ?_⟩ <;> first | (exfalso; omega) | skip)
    | fail
  refine ⟨_, _, _, copyP hg1 hv1 h6, by omega, ?_⟩
  generalize hs2 : H1.set b1 (Pc (pad xs)) = H2
  have hg2 := set_get hs2
  have n2 := set_n hs2
  have hg02 : H2.get b0 = some (Pc z6) := by rw [set_old hs2 b0 (by omega), k1.2 b0 (by omega)]; exact hg0
  have k2 : Keep H H2 := keep_put (k0.trans k1) (by omega) (set_old hs2) n2
  repeat' first
    | refine CO.cons rfl ?_
    | refine CO.nil ?_
    | refine CV.seq ?_
    | refine CV.region callees ?_
    | refine CV.cond ?_
    | refine CV.block ?_
    | refine CV.skip ?_
    | refine CV.exit ?_
    | refine CV.ret ?_
    | refine CV.scope ?_
    | refine CV.draw callees (by decide +kernel) ?_
    | refine CH.cons rfl ?_
    | refine CH.nil ?_
    | refine CO.consG rfl ?_
    | refine CH.consG rfl ?_
    | refine CG.cons rfl ?_
    | refine CR.cons ?_
    | refine CR.nil ?_
    | refine CG.nil ?_
    | refine CG.consG rfl ?_
    | refine ⟨(rfl : plain _ = true), ?_⟩
    | refine ⟨(rfl : nilOk _ = some _), ?_⟩
    | refine ⟨_, ints_len (by assumption), ?_⟩
    | refine ⟨_, ints_addr (by assumption) (by omega) (by omega), ?_⟩
    | refine ⟨_, ints_load (by assumption) (by omega) (by omega), ?_⟩
    | refine ⟨(⟨by omega, by omega⟩ : inI64 _), ?_⟩
    | refine ⟨_, fun tm ha => step1_max rfl (ev_tmp ha rfl) (ev_tmp ha rfl), ?_⟩
    | refine ⟨_, fun tm ha => step1_min rfl (ev_tmp ha rfl) (ev_tmp ha rfl), ?_⟩
    | (refine ⟨_, loadP (pad_len h6) hg2, ?_⟩)
    | (refine ⟨fun _ => ?_, fun _ => ?_⟩ <;> first | (exfalso; omega) | skip)
    | fail
  refine ⟨_, _, storeP (l := z6) rfl (pad_len h6) hg02, by omega, ?_⟩
  generalize hs3 : H2.set b0 (Pc (pad xs)) = H3
  have hg3 := set_get hs3
  have n3 := set_n hs3
  repeat' first
    | refine CO.cons rfl ?_
    | refine CO.nil ?_
    | refine CV.seq ?_
    | refine CV.region callees ?_
    | refine CV.cond ?_
    | refine CV.block ?_
    | refine CV.skip ?_
    | refine CV.exit ?_
    | refine CV.ret ?_
    | refine CV.scope ?_
    | refine CV.draw callees (by decide +kernel) ?_
    | refine CH.cons rfl ?_
    | refine CH.nil ?_
    | refine CO.consG rfl ?_
    | refine CH.consG rfl ?_
    | refine CG.cons rfl ?_
    | refine CR.cons ?_
    | refine CR.nil ?_
    | refine CG.nil ?_
    | refine CG.consG rfl ?_
    | refine ⟨(rfl : plain _ = true), ?_⟩
    | refine ⟨(rfl : nilOk _ = some _), ?_⟩
    | refine ⟨_, ints_len (by assumption), ?_⟩
    | refine ⟨_, ints_addr (by assumption) (by omega) (by omega), ?_⟩
    | refine ⟨_, ints_load (by assumption) (by omega) (by omega), ?_⟩
    | refine ⟨(⟨by omega, by omega⟩ : inI64 _), ?_⟩
    | refine ⟨_, fun tm ha => step1_max rfl (ev_tmp ha rfl) (ev_tmp ha rfl), ?_⟩
    | refine ⟨_, fun tm ha => step1_min rfl (ev_tmp ha rfl) (ev_tmp ha rfl), ?_⟩
    | (refine ⟨fun _ => ?_, fun _ => ?_⟩ <;> first | (exfalso; omega) | skip)
    | fail
  exact ⟨_, loadP (pad_len h6) hg3, rfl, rfl, keep_put k2 (by omega) (set_old hs3) n3⟩
end Go.Proofs.Ytlpkbcgdcimglaa
