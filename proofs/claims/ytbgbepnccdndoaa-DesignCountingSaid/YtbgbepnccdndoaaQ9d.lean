
/- What is known for sure is so: the law's function. -/
import Derived.Test.YtbgbepnccdndoaaQ8d
set_option linter.unusedVariables false
set_option linter.unusedSimpArgs false
namespace Go.AI
theorem row_slice {P : Program} {H : Heap} {t e : TypeId} {v : Value} {vs : List Value} {i : Int} {kd : IntKind} (ht : P.underlying t = some (.slice e)) (hs : sizeB P e = some 1) (hv : Row H v vs) (h0 : 0 ≤ i) (h1 : i ≤ vs.length) :
    ∃ r, aslice P t v none (some (some (.int kd i))) = some r ∧ Row H r (vs.take i.toNat) := by
  rcases hv with ⟨rfl, rfl⟩ | ⟨rfl, rfl⟩ | ⟨b, o, c, cs, e', k, rfl, h2, h3, h4, h5, h6⟩
  · simp at h1
    have : i = 0 := by omega
    subst this
    exact ⟨.slice none 0 0, by simp [aslice, ht, hs, bound], .inl ⟨rfl, by simp⟩⟩
  · simp at h1
    have : i = 0 := by omega
    subst this
    exact ⟨anon, by simp [aslice, anon, ht, hs, bound], .inr (.inl ⟨rfl, by simp⟩)⟩
  · refine ⟨.slice (some ⟨b, o, none⟩) i.toNat c, by simp [aslice, ht, hs, bound, h0, h1], .inr (.inr ⟨b, o, c, cs, e', k, ?_, h2, h3, h4, ?_, ?_⟩)⟩
    · rw [List.length_take]; congr 1; omega
    · rw [List.length_take]; omega
    · intro j w hj
      rw [List.getElem?_take] at hj
      split at hj
      · exact h6 j w hj
      · cases hj
end Go.AI
namespace Go.Proofs.Ytbgbepnccdndoaa
open Go.AI
set_option linter.unusedVariables false
set_option linter.unusedSimpArgs false
theorem slice_ask {K : Value → Prop} {H : Heap} {v : Value} {xs : List Int} {i : Int} (hv : Ints H v xs) (h0 : 0 ≤ i) (h1 : i ≤ xs.length) (hk : ∀ r, Ints H r (xs.take i.toNat) → K r) :
    ∃ r, aslice Try.prog 22 v none (some (some (.int .i64 i))) = some r ∧ K r := by
  obtain ⟨r, h2, h3⟩ := row_slice (kd := .i64) un22 sz3 hv h0 (by simpa using h1)
  exact ⟨r, h2, hk r (by rw [← List.map_take] at h3; exact h3)⟩
theorem take_at {l : List Int} {i j : Nat} (h : j < i) (hl : j < l.length) : (l.take i)[j]! = l[j]! := by
  rw [getElem!_pos _ _ (by rw [List.length_take]; omega), List.getElem_take, getElem!_pos l j hl]
theorem Fits.take {xs cs : List Int} (h : Fits xs cs) {i : Nat} (hi : i ≤ cs.length) : Fits xs (cs.take i) := by
  have hl : (cs.take i).length = i := by rw [List.length_take]; omega
  refine ⟨fun j hj => ?_, fun k hk => ?_⟩
  · rw [hl] at hj
    rw [take_at hj (by omega)]; exact h.el j (by omega)
  · have e : often (cs.take i) k i = often cs k i := cntN_congr _ fun j hj => by rw [take_at hj (by omega)]
    have h1 := often_le (cs := cs) (k := k) hi
    have h2 := h.few k hk
    rw [hl, e]; omega
theorem sure_le {xs cs : List Int} {d m : Int} (hm : IsMax xs m) (hf : Fits xs cs) : restS xs d cs ≤ mostOf xs d m := by
  unfold restS
  by_cases h1 : (restK xs d cs).length = 1
  · rw [if_pos h1]
    unfold restK at h1
    by_cases hd : (cs.length : Int) = d
    · rw [if_pos hd] at h1; simp at h1
    · rw [if_neg hd] at h1
      obtain ⟨k, hk, hp, ho⟩ := kinds_one h1
      obtain ⟨ha, hs⟩ := left_at hf.el cs.length (Nat.le_refl _)
      have hnn := hf.nn (Nat.le_refl _)
      rw [List.take_length] at ha hs hnn
      have hlen := leftL_len cs xs
      have h2 := sumL_one (leftL xs cs) k (by omega) fun i hi hne => by
        have := hnn i hi
        have := ho i (by omega) hne
        omega
      have h3 := ha k hk
      have h4 := hm.2 k hk
      unfold mostOf; omega
  · rw [if_neg h1]; unfold mostOf; omega
theorem sure_first {xs : List Int} {d m : Int} (hS : SV xs d) (hm : IsMax xs m) : verdictOf xs d m = 1 ↔ restS xs d [] = d := by
  obtain ⟨s1, s2, s3, s4, s5, s6⟩ := hS
  have hk : restK xs d [] = kindsL xs xs.length := by
    unfold restK
    rw [if_neg (by simp; omega)]; rfl
  have hl : (restK xs d []).length = xs.length := by rw [hk]; exact kinds_all fun k hk => by have := s3 k hk; omega
  unfold restS verdictOf
  rw [hl]
  obtain ⟨⟨k, hk1, hk2⟩, hall⟩ := hm
  by_cases h1 : xs.length = 1
  · rw [if_pos h1]
    have e := sumL_one xs 0 (by omega) fun i hi hne => by omega
    have : k = 0 := by omega
    subst this
    rw [if_pos (by omega)]
    simp
  · rw [if_neg h1]
    have h2 := sumL_two (l := xs) (k := k) (j := if k = 0 then 1 else 0) (fun i hi => (s3 i hi).1) hk1 (by split <;> omega) (by split <;> omega)
    rw [if_neg (by omega)]
    split <;> omega
theorem verdict_most {xs : List Int} {d m : Int} (hS : SV xs d) : (verdictOf xs d m = 2 ↔ mostOf xs d m = 0) ∧ 1 ≤ verdictOf xs d m ∧ verdictOf xs d m ≤ 3 := by
  have := hS.d0
  unfold verdictOf
  by_cases h : sumL xs - m = 0
  · rw [if_pos h]; unfold mostOf; omega
  · rw [if_neg h]
    split <;> omega
/-- How many of the first kinds may come next. -/
def cn (L : List Int) (i n j : Nat) : Nat := if i < n then (kindsL L j).length else 0
theorem cn_zero {L : List Int} {i n : Nat} : cn L i n 0 = 0 := by unfold cn; split <;> rfl
theorem cn_succ {L : List Int} {i n j : Nat} : cn L i n (j + 1) = cn L i n j + if 0 < L[j]! ∧ i < n then 1 else 0 := by
  unfold cn
  by_cases h : i < n
  · rw [if_pos h, if_pos h, kindsL, List.length_append]
    by_cases h2 : 0 < L[j]!
    · rw [if_pos h2, if_pos ⟨h2, h⟩]; rfl
    · rw [if_neg h2, if_neg (fun h3 => h2 h3.1)]; rfl
  · rw [if_neg h, if_neg h, if_neg (fun h3 => h h3.2)]
theorem cn_le {L : List Int} {i n j : Nat} : cn L i n j ≤ j := by
  unfold cn
  have := kinds_len L j
  split <;> omega
theorem rest_facts {xs cs : List Int} {d : Int} {i : Nat} (hi : i ≤ cs.length) (hd : (cs.length : Int) = d) :
    (restK xs d (cs.take i)).length = cn (leftL xs (cs.take i)) i cs.length xs.length ∧ (∀ j : Nat, j < xs.length → ((j : Int) ∈ restK xs d (cs.take i) ↔ 0 < (leftL xs (cs.take i))[j]! ∧ i < cs.length)) ∧
    ((restK xs d (cs.take i)).length = 1 → restS xs d (cs.take i) = d - i) ∧ ((restK xs d (cs.take i)).length ≠ 1 → restS xs d (cs.take i) = 0) := by
  have hl : (cs.take i).length = i := by rw [List.length_take]; omega
  refine ⟨?_, fun j hj => ?_, fun h => ?_, fun h => ?_⟩
  · unfold restK cn
    rw [hl]
    by_cases h : i < cs.length
    · rw [if_neg (by omega), if_pos h]
    · rw [if_pos (by omega), if_neg h]; rfl
  · unfold restK
    rw [hl]
    by_cases h : i < cs.length
    · rw [if_neg (by omega), kinds_mem]
      constructor
      · rintro ⟨k, h1, h2, h3⟩
        have : k = j := by omega
        subst this
        exact ⟨h3, h⟩
      · rintro ⟨h1, _⟩
        exact ⟨j, hj, rfl, h1⟩
    · rw [if_pos (by omega)]
      simp [h]
  · unfold restS; rw [if_pos h, hl]
  · unfold restS; rw [if_neg h]
set_option maxRecDepth 100000 in
set_option maxHeartbeats 4000000 in
theorem counting_spec {v : Value} {H : Heap} {nums : List Int} (hBase : Base H) (hv : Ints H v nums) (hx : nums.length ≤ 9223372036854775807) (_ : ∀ x ∈ nums, inI64 x) :
    CallB Try.prog H.n 12 [v] H (fun r _ => r = .bool true) := by
  have hn : H.n ≤ H.n := Nat.le_refl _
  refine CV.enter callees false rfl Try.func12 rfl (by kernel_rfl) (Nat.le_of_ble_eq_true rfl) hn ?_
  repeat' first
    | refine CO.cons rfl ?_
    | refine CO.nil ?_
    | refine CV.seq ?_
    | refine CV.region callees ?_
    | refine CV.cond ?_
    | refine CV.block ?_
    | refine CV.skip ?_
    | refine CV.exit ?_
    | refine CV.ret ?_
    | refine CV.scope ?_
    | refine CV.draw callees (by decide +kernel) ?_
    | refine CH.cons rfl ?_
    | refine CH.nil ?_
    | refine CO.consG rfl ?_
    | refine CH.consG rfl ?_
    | refine CG.cons rfl ?_
    | refine CR.cons ?_
    | refine CR.nil ?_
    | refine CG.nil ?_
    | refine CG.consG rfl ?_
    | refine ⟨(rfl : plain _ = true), ?_⟩
    | refine ⟨(rfl : nilOk _ = some _), ?_⟩
    | refine ⟨_, ints_len (by assumption), ?_⟩
    | refine ⟨_, ints_addr (by assumption) (by omega) (by omega), ?_⟩
    | refine ⟨_, ints_load (by assumption) (by omega) (by omega), ?_⟩
    | refine ⟨(⟨by omega, by omega⟩ : inI64 _), ?_⟩
    | refine ⟨_, fun tm ha => step1_max rfl (ev_tmp ha rfl) (ev_tmp ha rfl), ?_⟩
    | refine ⟨_, fun tm ha => step1_min rfl (ev_tmp ha rfl) (ev_tmp ha rfl), ?_⟩
    | (refine ⟨fun _ => ?_, fun _ => ?_⟩ <;> first | (exfalso; omega) | skip)
    | fail
  refine (boxOf_spec hn hv hx).mono ?_
  rintro r H1 ⟨⟨b, rfl, hb, hbox⟩, k1⟩
  have l1 := k1.1
  repeat' first
    | refine CO.cons rfl ?_
    | refine CO.nil ?_
    | refine CV.seq ?_
    | refine CV.region callees ?_
    | refine CV.cond ?_
    | refine CV.block ?_
    | refine CV.skip ?_
    | refine CV.exit ?_
    | refine CV.ret ?_
    | refine CV.scope ?_
    | refine CV.draw callees (by decide +kernel) ?_
    | refine CH.cons rfl ?_
    | refine CH.nil ?_
    | refine CO.consG rfl ?_
    | refine CH.consG rfl ?_
    | refine CG.cons rfl ?_
    | refine CR.cons ?_
    | refine CR.nil ?_
    | refine CG.nil ?_
    | refine CG.consG rfl ?_
    | refine ⟨(rfl : plain _ = true), ?_⟩
    | refine ⟨(rfl : nilOk _ = some _), ?_⟩
    | refine ⟨_, ints_len (by assumption), ?_⟩
    | refine ⟨_, ints_addr (by assumption) (by omega) (by omega), ?_⟩
    | refine ⟨_, ints_load (by assumption) (by omega) (by omega), ?_⟩
    | refine ⟨(⟨by omega, by omega⟩ : inI64 _), ?_⟩
    | refine ⟨_, fun tm ha => step1_max rfl (ev_tmp ha rfl) (ev_tmp ha rfl), ?_⟩
    | refine ⟨_, fun tm ha => step1_min rfl (ev_tmp ha rfl) (ev_tmp ha rfl), ?_⟩
    | (refine ⟨fun _ => ?_, fun _ => ?_⟩ <;> first | (exfalso; omega) | skip)
    | fail
  refine (stockOf_spec hb l1 hbox).mono ?_
  rintro r H2 ⟨⟨k, xs, d, rfl, hk2, hS, hsm⟩, hb2, x2⟩
  have l2 := x2.1
  have hbn := hbox.1
  repeat' first
    | refine CO.cons rfl ?_
    | refine CO.nil ?_
    | refine CV.seq ?_
    | refine CV.region callees ?_
    | refine CV.cond ?_
    | refine CV.block ?_
    | refine CV.skip ?_
    | refine CV.exit ?_
    | refine CV.ret ?_
    | refine CV.scope ?_
    | refine CV.draw callees (by decide +kernel) ?_
    | refine CH.cons rfl ?_
    | refine CH.nil ?_
    | refine CO.consG rfl ?_
    | refine CH.consG rfl ?_
    | refine CG.cons rfl ?_
    | refine CR.cons ?_
    | refine CR.nil ?_
    | refine CG.nil ?_
    | refine CG.consG rfl ?_
    | refine ⟨(rfl : plain _ = true), ?_⟩
    | refine ⟨(rfl : nilOk _ = some _), ?_⟩
    | refine ⟨_, ints_len (by assumption), ?_⟩
    | refine ⟨_, ints_addr (by assumption) (by omega) (by omega), ?_⟩
    | refine ⟨_, ints_load (by assumption) (by omega) (by omega), ?_⟩
    | refine ⟨(⟨by omega, by omega⟩ : inI64 _), ?_⟩
    | refine ⟨_, fun tm ha => step1_max rfl (ev_tmp ha rfl) (ev_tmp ha rfl), ?_⟩
    | refine ⟨_, fun tm ha => step1_min rfl (ev_tmp ha rfl) (ev_tmp ha rfl), ?_⟩
    | (refine ⟨_, _, allocK, ?_⟩)
    | (refine ⟨fun _ => ?_, fun _ => ?_⟩ <;> first | (exfalso; omega) | skip)
    | fail
  generalize hs3 : H2.new (Kc (.slice none 0 0) 0) = H3
  have hg3 := new_get hs3
  have k3 := new_keep hs3
  have n3 := new_n hs3
  obtain ⟨b4, hb4⟩ : ∃ b4, H2.n = b4 := ⟨_, rfl⟩
  rw [hb4] at hg3 n3 ⊢
  refine ⟨_, _, storeK hk2.row.oneC.1 hg3, by omega, ?_⟩
  generalize hs4 : Heap.set H3 b4 _ = H4
  have hg4 : H4.get b4 = some (Kc k d) := set_get hs4
  have n4 := set_n hs4
  have k24 : Keep H2 H4 := keep_put k3 (by omega) (set_old hs4) n4
  have hk4 : Ints H4 k xs := Row.keep hk2.row k24
  have hbx4 := hb2.keep k24
  repeat' first
    | refine CO.cons rfl ?_
    | refine CO.nil ?_
    | refine CV.seq ?_
    | refine CV.region callees ?_
    | refine CV.cond ?_
    | refine CV.block ?_
    | refine CV.skip ?_
    | refine CV.exit ?_
    | refine CV.ret ?_
    | refine CV.scope ?_
    | refine CV.draw callees (by decide +kernel) ?_
    | refine CH.cons rfl ?_
    | refine CH.nil ?_
    | refine CO.consG rfl ?_
    | refine CH.consG rfl ?_
    | refine CG.cons rfl ?_
    | refine CR.cons ?_
    | refine CR.nil ?_
    | refine CG.nil ?_
    | refine CG.consG rfl ?_
    | refine ⟨(rfl : plain _ = true), ?_⟩
    | refine ⟨(rfl : nilOk _ = some _), ?_⟩
    | refine ⟨_, ints_len (by assumption), ?_⟩
    | refine ⟨_, ints_addr (by assumption) (by omega) (by omega), ?_⟩
    | refine ⟨_, ints_load (by assumption) (by omega) (by omega), ?_⟩
    | refine ⟨(⟨by omega, by omega⟩ : inI64 _), ?_⟩
    | refine ⟨_, fun tm ha => step1_max rfl (ev_tmp ha rfl) (ev_tmp ha rfl), ?_⟩
    | refine ⟨_, fun tm ha => step1_min rfl (ev_tmp ha rfl) (ev_tmp ha rfl), ?_⟩
    | (refine ⟨_, loadK hg4, ?_⟩)
    | (refine ⟨fun _ => ?_, fun _ => ?_⟩ <;> first | (exfalso; omega) | skip)
    | fail
  refine (courseOf_spec hb (by omega) hbx4 hk4 hS).mono ?_
  rintro cv H5 ⟨⟨cs, hcv, hf, hcd⟩, hb5, x5⟩
  have l5 := x5.1
  have hg5 : H5.get b4 = some (Kc k d) := by rw [x5.2 b4 (by omega) (by omega)]; exact hg4
  have hk5 : Ints H5 k xs := row_box hk4 x5 hbx4
  have hcv5 : Ints H5 cv cs := hcv.row
  repeat' first
    | refine CO.cons rfl ?_
    | refine CO.nil ?_
    | refine CV.seq ?_
    | refine CV.region callees ?_
    | refine CV.cond ?_
    | refine CV.block ?_
    | refine CV.skip ?_
    | refine CV.exit ?_
    | refine CV.ret ?_
    | refine CV.scope ?_
    | refine CV.draw callees (by decide +kernel) ?_
    | refine CH.cons rfl ?_
    | refine CH.nil ?_
    | refine CO.consG rfl ?_
    | refine CH.consG rfl ?_
    | refine CG.cons rfl ?_
    | refine CR.cons ?_
    | refine CR.nil ?_
    | refine CG.nil ?_
    | refine CG.consG rfl ?_
    | refine ⟨(rfl : plain _ = true), ?_⟩
    | refine ⟨(rfl : nilOk _ = some _), ?_⟩
    | refine ⟨_, ints_len (by assumption), ?_⟩
    | refine ⟨_, ints_addr (by assumption) (by omega) (by omega), ?_⟩
    | refine ⟨_, ints_load (by assumption) (by omega) (by omega), ?_⟩
    | refine ⟨(⟨by omega, by omega⟩ : inI64 _), ?_⟩
    | refine ⟨_, fun tm ha => step1_max rfl (ev_tmp ha rfl) (ev_tmp ha rfl), ?_⟩
    | refine ⟨_, fun tm ha => step1_min rfl (ev_tmp ha rfl) (ev_tmp ha rfl), ?_⟩
    | (refine ⟨_, loadK hg5, ?_⟩)
    | (refine ⟨fun _ => ?_, fun _ => ?_⟩ <;> first | (exfalso; omega) | skip)
    | fail
  refine (counted_spec (by omega) hk5 hS).mono ?_
  rintro r H6 ⟨⟨m, hm, rfl⟩, k6⟩
  have l6 := k6.1
  have hg6 : H6.get b4 = some (Kc k d) := by rw [k6.2 b4 (by omega)]; exact hg5
  have hk6 : Ints H6 k xs := Row.keep hk5 k6
  have hcv6 : Ints H6 cv cs := Row.keep hcv5 k6
  obtain ⟨s1, s2, s3, s4, s5, s6⟩ := id hS
  have s7 := hS.sum
  repeat' first
    | refine CO.cons rfl ?_
    | refine CO.nil ?_
    | refine CV.seq ?_
    | refine CV.region callees ?_
    | refine CV.cond ?_
    | refine CV.block ?_
    | refine CV.skip ?_
    | refine CV.exit ?_
    | refine CV.ret ?_
    | refine CV.scope ?_
    | refine CV.draw callees (by decide +kernel) ?_
    | refine CH.cons rfl ?_
    | refine CH.nil ?_
    | refine CO.consG rfl ?_
    | refine CH.consG rfl ?_
    | refine CG.cons rfl ?_
    | refine CR.cons ?_
    | refine CR.nil ?_
    | refine CG.nil ?_
    | refine CG.consG rfl ?_
    | refine ⟨(rfl : plain _ = true), ?_⟩
    | refine ⟨(rfl : nilOk _ = some _), ?_⟩
    | refine ⟨_, ints_len (by assumption), ?_⟩
    | refine ⟨_, ints_addr (by assumption) (by omega) (by omega), ?_⟩
    | refine ⟨_, ints_load (by assumption) (by omega) (by omega), ?_⟩
    | refine ⟨(⟨by omega, by omega⟩ : inI64 _), ?_⟩
    | refine ⟨_, fun tm ha => step1_max rfl (ev_tmp ha rfl) (ev_tmp ha rfl), ?_⟩
    | refine ⟨_, fun tm ha => step1_min rfl (ev_tmp ha rfl) (ev_tmp ha rfl), ?_⟩
    | (refine ⟨_, addrK0, ?_⟩)
    | (refine ⟨_, cell_load ag22 hg6 rfl, ?_⟩)
    | (refine ⟨fun _ => ?_, fun _ => ?_⟩ <;> first | (exfalso; omega) | skip)
    | fail
  refine (ints_spec (by omega) hk6 (by omega)).mono ?_
  rintro lv H7 ⟨hlv, k7⟩
  have l7 := k7.1
  have hsl : ∀ i, i ≤ cs.length → restS xs d (cs.take i) ≤ mostOf xs d m := fun i hi => sure_le hm (hf.take hi)
  have hv1 := sure_first hS hm
  obtain ⟨hv2, hv3, hv4⟩ := verdict_most (m := m) hS
  have hre := fun {B : Nat} {H : Heap} (hB : B ≤ H.n) (h : Ints H k xs) => reached_spec hB h hS hm
  have hmb : 0 ≤ mostOf xs d m ∧ mostOf xs d m ≤ 100 := by have := hm.1; obtain ⟨k, hk, rfl⟩ := hm.1; have := s3 k hk; have := sumL_le xs k (fun i hi => by have := (s3 i hi).1; omega) hk; unfold mostOf; omega
  generalize verdictOf xs d m = vd at hv1 hv2 hv3 hv4 ⊢
  generalize mostOf xs d m = mo at hsl hv2 hre hmb ⊢
  repeat' first
    | refine CO.cons rfl ?_
    | refine CO.nil ?_
    | refine CV.seq ?_
    | refine CV.region callees ?_
    | refine CV.cond ?_
    | refine CV.block ?_
    | refine CV.skip ?_
    | refine CV.exit ?_
    | refine CV.ret ?_
    | refine CV.scope ?_
    | refine CV.draw callees (by decide +kernel) ?_
    | refine CH.cons rfl ?_
    | refine CH.nil ?_
    | refine CO.consG rfl ?_
    | refine CH.consG rfl ?_
    | refine CG.cons rfl ?_
    | refine CR.cons ?_
    | refine CR.nil ?_
    | refine CG.nil ?_
    | refine CG.consG rfl ?_
    | refine ⟨(rfl : plain _ = true), ?_⟩
    | refine ⟨(rfl : nilOk _ = some _), ?_⟩
    | refine ⟨_, ints_len (by assumption), ?_⟩
    | refine ⟨_, ints_addr (by assumption) (by omega) (by omega), ?_⟩
    | refine ⟨_, ints_load (by assumption) (by omega) (by omega), ?_⟩
    | refine ⟨(⟨by omega, by omega⟩ : inI64 _), ?_⟩
    | refine ⟨_, fun tm ha => step1_max rfl (ev_tmp ha rfl) (ev_tmp ha rfl), ?_⟩
    | refine ⟨_, fun tm ha => step1_min rfl (ev_tmp ha rfl) (ev_tmp ha rfl), ?_⟩
    | (refine ⟨fun _ => ?_, fun _ => ?_⟩ <;> first | (exfalso; omega) | skip)
    | fail
  refine CV.loopc ?_
  refine WCv.rounds callees false (α := Nat) (fun i => [(4, .pointer (some ⟨b4, 0, none⟩)), (5, cv), (6, .int .i64 vd), (7, .int .i64 mo), (9, lv), (10, .int .i64 i)]) (fun i Hz => i ≤ cs.length + 1 ∧ Own 3 Hz lv ((leftL xs (cs.take i)).map VI) H6.n ∧ Keep H6 Hz) (fun i => cs.length + 1 - i) (0) (by repeat' first | exact trivial | refine ⟨rfl, ?_⟩ | refine ⟨slot_int (by (try simp only [Int.toNat_natCast]); omega), ?_⟩) ?_ ?_
  · exact ⟨by omega, by simpa [leftL] using hlv, k7⟩
  rintro i Hx ⟨hi, hlx, kx⟩ hBx
  have lx := kx.1
  have hgx : Hx.get b4 = some (Kc k d) := by rw [kx.2 b4 (by omega)]; exact hg6
  have hkx : Ints Hx k xs := Row.keep hk6 kx
  have hcx : Ints Hx cv cs := Row.keep hcv6 kx
  by_cases hi2 : i ≤ cs.length
  · have hft := hf.take hi2
    have hln : (cs.take i).length = i := by rw [List.length_take]; omega
    have hsl := hsl i hi2
    obtain ⟨r1, r2, r3, r4⟩ := rest_facts (xs := xs) (d := d) hi2 hcd
    have lL := leftL_len (cs.take i) xs
    have hnn := hf.nn hi2
    have hle : ∀ k : Nat, k < xs.length → (leftL xs (cs.take i))[k]! ≤ 9 := fun k hk => by
      have := (left_at hf.el i hi2).1 k hk
      have := s3 k hk
      omega
    have hv1' : i = 0 → (vd = 1 ↔ restS xs d (cs.take i) = d) := fun h => by subst h; exact hv1
    have hst : i < cs.length → leftL xs (cs.take (i + 1)) = (leftL xs (cs.take i)).set (cs[i]!).toNat ((leftL xs (cs.take i))[(cs[i]!).toNat]! - 1) := left_step
    have hse : ¬ i < cs.length → leftL xs (cs.take (i + 1)) = leftL xs (cs.take i) := fun h => by
      rw [List.take_of_length_le (by omega), List.take_of_length_le (by omega)]
    repeat' first
      | refine CO.cons rfl ?_
      | refine CO.nil ?_
      | refine CV.seq ?_
      | refine CV.region callees ?_
      | refine CV.cond ?_
      | refine CV.block ?_
      | refine CV.skip ?_
      | refine CV.exit ?_
      | refine CV.ret ?_
      | refine CV.scope ?_
      | refine CV.draw callees (by decide +kernel) ?_
      | refine CH.cons rfl ?_
      | refine CH.nil ?_
      | refine CO.consG rfl ?_
      | refine CH.consG rfl ?_
      | refine CG.cons rfl ?_
      | refine CR.cons ?_
      | refine CR.nil ?_
      | refine CG.nil ?_
      | refine CG.consG rfl ?_
      | refine ⟨(rfl : plain _ = true), ?_⟩
      | refine ⟨(rfl : nilOk _ = some _), ?_⟩
      | refine ⟨_, ints_len (by assumption), ?_⟩
      | refine ⟨_, ints_addr (by assumption) (by omega) (by omega), ?_⟩
      | refine ⟨_, ints_load (by assumption) (by omega) (by omega), ?_⟩
      | refine ⟨(⟨by omega, by omega⟩ : inI64 _), ?_⟩
      | refine ⟨_, fun tm ha => step1_max rfl (ev_tmp ha rfl) (ev_tmp ha rfl), ?_⟩
      | refine ⟨_, fun tm ha => step1_min rfl (ev_tmp ha rfl) (ev_tmp ha rfl), ?_⟩
      | (refine ⟨_, loadK hgx, ?_⟩)
      | (refine slice_ask hcx (by omega) (by omega) ?_; intro sv hsv)
      | (refine ⟨fun _ => ?_, fun _ => ?_⟩ <;> first | (exfalso; omega) | skip)
      | fail
    have hsv : Ints Hx sv (cs.take i) := hsv
    refine (rest_spec (by omega) hkx hsv hS hft (by omega)).mono ?_
    rintro r Hy ⟨⟨kv, rfl, hkv⟩, ky⟩
    have ly := ky.1
    have hkvy : Ints Hy kv (restK xs d (cs.take i)) := hkv.row
    have hly := hlx.keep ky
    have hgy : Hy.get b4 = some (Kc k d) := by rw [ky.2 b4 (by omega)]; exact hgx
    have hcy : Ints Hy cv cs := Row.keep hcx ky
    have kxy := kx.trans ky
    generalize restS xs d (cs.take i) = su at hsl r3 r4 hv1' ⊢
    generalize restK xs d (cs.take i) = K at r1 r2 r3 r4 hkvy ⊢
    generalize leftL xs (cs.take i) = L at r1 r2 lL hnn hle hly hst hse
    have hlvy : Ints Hy lv L := hly.row
    have cnl := cn_le (L := L) (i := i) (n := cs.length) (j := xs.length)
    have cn0 := cn_zero (L := L) (i := i) (n := cs.length)
    repeat' first
      | refine CO.cons rfl ?_
      | refine CO.nil ?_
      | refine CV.seq ?_
      | refine CV.region callees ?_
      | refine CV.cond ?_
      | refine CV.block ?_
      | refine CV.skip ?_
      | refine CV.exit ?_
      | refine CV.ret ?_
      | refine CV.scope ?_
      | refine CV.draw callees (by decide +kernel) ?_
      | refine CH.cons rfl ?_
      | refine CH.nil ?_
      | refine CO.consG rfl ?_
      | refine CH.consG rfl ?_
      | refine CG.cons rfl ?_
      | refine CR.cons ?_
      | refine CR.nil ?_
      | refine CG.nil ?_
      | refine CG.consG rfl ?_
      | refine ⟨(rfl : plain _ = true), ?_⟩
      | refine ⟨(rfl : nilOk _ = some _), ?_⟩
      | refine ⟨_, ints_len (by assumption), ?_⟩
      | refine ⟨_, ints_addr (by assumption) (by omega) (by omega), ?_⟩
      | refine ⟨_, ints_load (by assumption) (by omega) (by omega), ?_⟩
      | refine ⟨(⟨by omega, by omega⟩ : inI64 _), ?_⟩
      | refine ⟨_, fun tm ha => step1_max rfl (ev_tmp ha rfl) (ev_tmp ha rfl), ?_⟩
      | refine ⟨_, fun tm ha => step1_min rfl (ev_tmp ha rfl) (ev_tmp ha rfl), ?_⟩
      | (refine ⟨fun _ => ?_, fun _ => ?_⟩ <;> first | (exfalso; omega) | skip)
      | fail
    refine CV.loopc ?_
    refine WCv.rounds callees false (α := Nat) (fun j => [(4, .pointer (some ⟨b4, 0, none⟩)), (5, cv), (6, .int .i64 vd), (7, .int .i64 mo), (9, lv), (10, .int .i64 i), (11, kv), (12, .int .i64 su), (14, .int .i64 (cn L i cs.length j)), (15, .int .i64 j)]) (fun j Hz => j ≤ L.length ∧ Hz = Hy) (fun j => L.length - j) (0) (by repeat' first | exact trivial | refine ⟨rfl, ?_⟩ | refine ⟨slot_int (by (try simp only [Int.toNat_natCast]); omega), ?_⟩) ?_ ?_
    · exact ⟨by omega, rfl⟩
    rintro j Hz ⟨hj, rfl⟩ hBz
    have cnj := cn_le (L := L) (i := i) (n := cs.length) (j := j)
    by_cases hj2 : j < L.length
    · have hxj : L[(j : Int).toNat]! = L[j]! := rfl
      have cs1 := cn_succ (L := L) (i := i) (n := cs.length) (j := j)
      have hmem := r2 j (by omega)
      by_cases hp : 0 < L[j]! ∧ i < cs.length
      · rw [if_pos hp] at cs1
        have hdec : decide ((j : Int) ∈ K) = true := decide_eq_true (hmem.2 hp)
        obtain ⟨hp1, hp2⟩ := hp
        repeat' first
          | refine CO.cons rfl ?_
          | refine CO.nil ?_
          | refine CV.seq ?_
          | refine CV.region callees ?_
          | refine CV.cond ?_
          | refine CV.block ?_
          | refine CV.skip ?_
          | refine CV.exit ?_
          | refine CV.ret ?_
          | refine CV.scope ?_
          | refine CV.draw callees (by decide +kernel) ?_
          | refine CH.cons rfl ?_
          | refine CH.nil ?_
          | refine CO.consG rfl ?_
          | refine CH.consG rfl ?_
          | refine CG.cons rfl ?_
          | refine CR.cons ?_
          | refine CR.nil ?_
          | refine CG.nil ?_
          | refine CG.consG rfl ?_
          | refine ⟨(rfl : plain _ = true), ?_⟩
          | refine ⟨(rfl : nilOk _ = some _), ?_⟩
          | refine ⟨_, ints_len (by assumption), ?_⟩
          | refine ⟨_, ints_addr (by assumption) (by omega) (by omega), ?_⟩
          | refine ⟨_, ints_load (by assumption) (by omega) (by omega), ?_⟩
          | refine ⟨(⟨by omega, by omega⟩ : inI64 _), ?_⟩
          | refine ⟨_, fun tm ha => step1_max rfl (ev_tmp ha rfl) (ev_tmp ha rfl), ?_⟩
          | refine ⟨_, fun tm ha => step1_min rfl (ev_tmp ha rfl) (ev_tmp ha rfl), ?_⟩
          | (refine ⟨fun _ => ?_, fun _ => ?_⟩ <;> first | (exfalso; omega) | skip)
          | fail
        refine (has_spec (by omega) hkvy (by omega)).mono ?_
        rintro r Hw ⟨rfl, rfl⟩
        rw [hdec]
        repeat' first
          | refine CO.cons rfl ?_
          | refine CO.nil ?_
          | refine CV.seq ?_
          | refine CV.region callees ?_
          | refine CV.cond ?_
          | refine CV.block ?_
          | refine CV.skip ?_
          | refine CV.exit ?_
          | refine CV.ret ?_
          | refine CV.scope ?_
          | refine CV.draw callees (by decide +kernel) ?_
          | refine CH.cons rfl ?_
          | refine CH.nil ?_
          | refine CO.consG rfl ?_
          | refine CH.consG rfl ?_
          | refine CG.cons rfl ?_
          | refine CR.cons ?_
          | refine CR.nil ?_
          | refine CG.nil ?_
          | refine CG.consG rfl ?_
          | refine ⟨(rfl : plain _ = true), ?_⟩
          | refine ⟨(rfl : nilOk _ = some _), ?_⟩
          | refine ⟨_, ints_len (by assumption), ?_⟩
          | refine ⟨_, ints_addr (by assumption) (by omega) (by omega), ?_⟩
          | refine ⟨_, ints_load (by assumption) (by omega) (by omega), ?_⟩
          | refine ⟨(⟨by omega, by omega⟩ : inI64 _), ?_⟩
          | refine ⟨_, fun tm ha => step1_max rfl (ev_tmp ha rfl) (ev_tmp ha rfl), ?_⟩
          | refine ⟨_, fun tm ha => step1_min rfl (ev_tmp ha rfl) (ev_tmp ha rfl), ?_⟩
          | refine ⟨_, fun tm ha => step1_boolNeq un4 rfl (ev_tmp ha rfl) (ev_tmp ha rfl), ?_⟩
          | (refine ⟨fun _ => ?_, fun _ => ?_⟩ <;> first | (exfalso; omega) | skip)
          | fail
        refine ⟨(j + 1), (by repeat' first | exact trivial | refine ⟨rfl, ?_⟩ | refine ⟨slot_int (by (try simp only [Int.toNat_natCast]); omega), ?_⟩), (by (try dsimp only); omega), ?_⟩
        exact ⟨by omega, rfl⟩
      · rw [if_neg hp] at cs1
        have hdec : decide ((j : Int) ∈ K) = false := decide_eq_false (fun h => hp (hmem.1 h))
        repeat' first
          | refine CO.cons rfl ?_
          | refine CO.nil ?_
          | refine CV.seq ?_
          | refine CV.region callees ?_
          | refine CV.cond ?_
          | refine CV.block ?_
          | refine CV.skip ?_
          | refine CV.exit ?_
          | refine CV.ret ?_
          | refine CV.scope ?_
          | refine CV.draw callees (by decide +kernel) ?_
          | refine CH.cons rfl ?_
          | refine CH.nil ?_
          | refine CO.consG rfl ?_
          | refine CH.consG rfl ?_
          | refine CG.cons rfl ?_
          | refine CR.cons ?_
          | refine CR.nil ?_
          | refine CG.nil ?_
          | refine CG.consG rfl ?_
          | refine ⟨(rfl : plain _ = true), ?_⟩
          | refine ⟨(rfl : nilOk _ = some _), ?_⟩
          | refine ⟨_, ints_len (by assumption), ?_⟩
          | refine ⟨_, ints_addr (by assumption) (by omega) (by omega), ?_⟩
          | refine ⟨_, ints_load (by assumption) (by omega) (by omega), ?_⟩
          | refine ⟨(⟨by omega, by omega⟩ : inI64 _), ?_⟩
          | refine ⟨_, fun tm ha => step1_max rfl (ev_tmp ha rfl) (ev_tmp ha rfl), ?_⟩
          | refine ⟨_, fun tm ha => step1_min rfl (ev_tmp ha rfl) (ev_tmp ha rfl), ?_⟩
          | (refine ⟨fun _ => ?_, fun _ => ?_⟩ <;> first | (exfalso; omega) | skip)
          | fail
        all_goals
          refine (has_spec (by omega) hkvy (by omega)).mono ?_
          rintro r Hw ⟨rfl, rfl⟩
          rw [hdec]
          repeat' first
            | refine CO.cons rfl ?_
            | refine CO.nil ?_
            | refine CV.seq ?_
            | refine CV.region callees ?_
            | refine CV.cond ?_
            | refine CV.block ?_
            | refine CV.skip ?_
            | refine CV.exit ?_
            | refine CV.ret ?_
            | refine CV.scope ?_
            | refine CV.draw callees (by decide +kernel) ?_
            | refine CH.cons rfl ?_
            | refine CH.nil ?_
            | refine CO.consG rfl ?_
            | refine CH.consG rfl ?_
            | refine CG.cons rfl ?_
            | refine CR.cons ?_
            | refine CR.nil ?_
            | refine CG.nil ?_
            | refine CG.consG rfl ?_
            | refine ⟨(rfl : plain _ = true), ?_⟩
            | refine ⟨(rfl : nilOk _ = some _), ?_⟩
            | refine ⟨_, ints_len (by assumption), ?_⟩
            | refine ⟨_, ints_addr (by assumption) (by omega) (by omega), ?_⟩
            | refine ⟨_, ints_load (by assumption) (by omega) (by omega), ?_⟩
            | refine ⟨(⟨by omega, by omega⟩ : inI64 _), ?_⟩
            | refine ⟨_, fun tm ha => step1_max rfl (ev_tmp ha rfl) (ev_tmp ha rfl), ?_⟩
            | refine ⟨_, fun tm ha => step1_min rfl (ev_tmp ha rfl) (ev_tmp ha rfl), ?_⟩
            | refine ⟨_, fun tm ha => step1_boolNeq un4 rfl (ev_tmp ha rfl) (ev_tmp ha rfl), ?_⟩
            | (refine ⟨fun _ => ?_, fun _ => ?_⟩ <;> first | (exfalso; omega) | skip)
            | fail
          refine ⟨(j + 1), (by repeat' first | exact trivial | refine ⟨rfl, ?_⟩ | refine ⟨slot_int (by (try simp only [Int.toNat_natCast]); omega), ?_⟩), (by (try dsimp only); omega), ?_⟩
          exact ⟨by omega, rfl⟩
    · have hjl : j = xs.length := by omega
      subst hjl
      rw [← r1] at cnl ⊢
      clear cnj
      have hsu : (K.length = 1 ∧ su = d - i) ∨ (K.length ≠ 1 ∧ su = 0) := by
        by_cases h : K.length = 1
        · exact .inl ⟨h, r3 h⟩
        · exact .inr ⟨h, r4 h⟩
      clear r3 r4
      by_cases hlt : i < cs.length
      · have hst := hst hlt
        obtain ⟨c0, c1⟩ := hf.el i hlt
        have hxi : cs[(i : Int).toNat]! = cs[i]! := rfl
        have hxc : L[(cs[(i : Int).toNat]!).toNat]! = L[(cs[i]!).toNat]! := rfl
        have hn1 := hnn (cs[i]!).toNat (by omega)
        have hn2 := hle (cs[i]!).toNat (by omega)
        have hset : ∀ H', Own 3 H' lv ((L.set (cs[i]!).toNat (L[(cs[i]!).toNat]! - 1)).map VI) H6.n → Own 3 H' lv ((leftL xs (cs.take (i + 1))).map VI) H6.n := fun H' h => by rw [hst]; exact h
        clear hst
        rcases hsu with ⟨hk1, hsu⟩ | ⟨hk1, hsu⟩
        all_goals
          by_cases hi0 : i = 0
          · have hv1' := hv1' hi0
            repeat' first
              | refine CO.cons rfl ?_
              | refine CO.nil ?_
              | refine CV.seq ?_
              | refine CV.region callees ?_
              | refine CV.cond ?_
              | refine CV.block ?_
              | refine CV.skip ?_
              | refine CV.exit ?_
              | refine CV.ret ?_
              | refine CV.scope ?_
              | refine CV.draw callees (by decide +kernel) ?_
              | refine CH.cons rfl ?_
              | refine CH.nil ?_
              | refine CO.consG rfl ?_
              | refine CH.consG rfl ?_
              | refine CG.cons rfl ?_
              | refine CR.cons ?_
              | refine CR.nil ?_
              | refine CG.nil ?_
              | refine CG.consG rfl ?_
              | refine ⟨(rfl : plain _ = true), ?_⟩
              | refine ⟨(rfl : nilOk _ = some _), ?_⟩
              | refine ⟨_, ints_len (by assumption), ?_⟩
              | refine ⟨_, ints_addr (by assumption) (by omega) (by omega), ?_⟩
              | refine ⟨_, ints_load (by assumption) (by omega) (by omega), ?_⟩
              | refine ⟨(⟨by omega, by omega⟩ : inI64 _), ?_⟩
              | refine ⟨_, fun tm ha => step1_max rfl (ev_tmp ha rfl) (ev_tmp ha rfl), ?_⟩
              | refine ⟨_, fun tm ha => step1_min rfl (ev_tmp ha rfl) (ev_tmp ha rfl), ?_⟩
              | (refine ⟨_, addrK1, ?_⟩)
              | (refine ⟨Value.int .i64 d, cell_load ag3 hgy rfl, ?_⟩)
              | refine ⟨_, fun tm ha => step1_boolNeq un4 rfl (ev_tmp ha rfl) (ev_tmp ha rfl), ?_⟩
              | (refine ⟨fun _ => ?_, fun _ => ?_⟩ <;> first | (exfalso; omega) | skip)
              | fail
            all_goals
              refine put_ask (i := (cs[i]!).toNat) hly (by omega) (by omega) ?_
              intro H3' hl3 kb3
              repeat' first
                | refine CO.cons rfl ?_
                | refine CO.nil ?_
                | refine CV.seq ?_
                | refine CV.region callees ?_
                | refine CV.cond ?_
                | refine CV.block ?_
                | refine CV.skip ?_
                | refine CV.exit ?_
                | refine CV.ret ?_
                | refine CV.scope ?_
                | refine CV.draw callees (by decide +kernel) ?_
                | refine CH.cons rfl ?_
                | refine CH.nil ?_
                | refine CO.consG rfl ?_
                | refine CH.consG rfl ?_
                | refine CG.cons rfl ?_
                | refine CR.cons ?_
                | refine CR.nil ?_
                | refine CG.nil ?_
                | refine CG.consG rfl ?_
                | refine ⟨(rfl : plain _ = true), ?_⟩
                | refine ⟨(rfl : nilOk _ = some _), ?_⟩
                | refine ⟨_, ints_len (by assumption), ?_⟩
                | refine ⟨_, ints_addr (by assumption) (by omega) (by omega), ?_⟩
                | refine ⟨_, ints_load (by assumption) (by omega) (by omega), ?_⟩
                | refine ⟨(⟨by omega, by omega⟩ : inI64 _), ?_⟩
                | refine ⟨_, fun tm ha => step1_max rfl (ev_tmp ha rfl) (ev_tmp ha rfl), ?_⟩
                | refine ⟨_, fun tm ha => step1_min rfl (ev_tmp ha rfl) (ev_tmp ha rfl), ?_⟩
                | (refine ⟨fun _ => ?_, fun _ => ?_⟩ <;> first | (exfalso; omega) | skip)
                | fail
              refine ⟨(i + 1), (by repeat' first | exact trivial | refine ⟨rfl, ?_⟩ | refine ⟨slot_int (by (try simp only [Int.toNat_natCast]); omega), ?_⟩), (by (try dsimp only); omega), ?_⟩
              exact ⟨by omega, hset _ hl3, kb3.keep kxy fun c hc => (hly.lt hc).1⟩
          · clear hv1'
            repeat' first
              | refine CO.cons rfl ?_
              | refine CO.nil ?_
              | refine CV.seq ?_
              | refine CV.region callees ?_
              | refine CV.cond ?_
              | refine CV.block ?_
              | refine CV.skip ?_
              | refine CV.exit ?_
              | refine CV.ret ?_
              | refine CV.scope ?_
              | refine CV.draw callees (by decide +kernel) ?_
              | refine CH.cons rfl ?_
              | refine CH.nil ?_
              | refine CO.consG rfl ?_
              | refine CH.consG rfl ?_
              | refine CG.cons rfl ?_
              | refine CR.cons ?_
              | refine CR.nil ?_
              | refine CG.nil ?_
              | refine CG.consG rfl ?_
              | refine ⟨(rfl : plain _ = true), ?_⟩
              | refine ⟨(rfl : nilOk _ = some _), ?_⟩
              | refine ⟨_, ints_len (by assumption), ?_⟩
              | refine ⟨_, ints_addr (by assumption) (by omega) (by omega), ?_⟩
              | refine ⟨_, ints_load (by assumption) (by omega) (by omega), ?_⟩
              | refine ⟨(⟨by omega, by omega⟩ : inI64 _), ?_⟩
              | refine ⟨_, fun tm ha => step1_max rfl (ev_tmp ha rfl) (ev_tmp ha rfl), ?_⟩
              | refine ⟨_, fun tm ha => step1_min rfl (ev_tmp ha rfl) (ev_tmp ha rfl), ?_⟩
              | (refine ⟨fun _ => ?_, fun _ => ?_⟩ <;> first | (exfalso; omega) | skip)
              | fail
            refine put_ask (i := (cs[i]!).toNat) hly (by omega) (by omega) ?_
            intro H3' hl3 kb3
            repeat' first
              | refine CO.cons rfl ?_
              | refine CO.nil ?_
              | refine CV.seq ?_
              | refine CV.region callees ?_
              | refine CV.cond ?_
              | refine CV.block ?_
              | refine CV.skip ?_
              | refine CV.exit ?_
              | refine CV.ret ?_
              | refine CV.scope ?_
              | refine CV.draw callees (by decide +kernel) ?_
              | refine CH.cons rfl ?_
              | refine CH.nil ?_
              | refine CO.consG rfl ?_
              | refine CH.consG rfl ?_
              | refine CG.cons rfl ?_
              | refine CR.cons ?_
              | refine CR.nil ?_
              | refine CG.nil ?_
              | refine CG.consG rfl ?_
              | refine ⟨(rfl : plain _ = true), ?_⟩
              | refine ⟨(rfl : nilOk _ = some _), ?_⟩
              | refine ⟨_, ints_len (by assumption), ?_⟩
              | refine ⟨_, ints_addr (by assumption) (by omega) (by omega), ?_⟩
              | refine ⟨_, ints_load (by assumption) (by omega) (by omega), ?_⟩
              | refine ⟨(⟨by omega, by omega⟩ : inI64 _), ?_⟩
              | refine ⟨_, fun tm ha => step1_max rfl (ev_tmp ha rfl) (ev_tmp ha rfl), ?_⟩
              | refine ⟨_, fun tm ha => step1_min rfl (ev_tmp ha rfl) (ev_tmp ha rfl), ?_⟩
              | (refine ⟨fun _ => ?_, fun _ => ?_⟩ <;> first | (exfalso; omega) | skip)
              | fail
            refine ⟨(i + 1), (by repeat' first | exact trivial | refine ⟨rfl, ?_⟩ | refine ⟨slot_int (by (try simp only [Int.toNat_natCast]); omega), ?_⟩), (by (try dsimp only); omega), ?_⟩
            exact ⟨by omega, hset _ hl3, kb3.keep kxy fun c hc => (hly.lt hc).1⟩
      · have hse := hse hlt
        have hi0 : ¬ i = 0 := by omega
        clear hv1'
        rcases hsu with ⟨hk1, hsu⟩ | ⟨hk1, hsu⟩
        all_goals
          repeat' first
            | refine CO.cons rfl ?_
            | refine CO.nil ?_
            | refine CV.seq ?_
            | refine CV.region callees ?_
            | refine CV.cond ?_
            | refine CV.block ?_
            | refine CV.skip ?_
            | refine CV.exit ?_
            | refine CV.ret ?_
            | refine CV.scope ?_
            | refine CV.draw callees (by decide +kernel) ?_
            | refine CH.cons rfl ?_
            | refine CH.nil ?_
            | refine CO.consG rfl ?_
            | refine CH.consG rfl ?_
            | refine CG.cons rfl ?_
            | refine CR.cons ?_
            | refine CR.nil ?_
            | refine CG.nil ?_
            | refine CG.consG rfl ?_
            | refine ⟨(rfl : plain _ = true), ?_⟩
            | refine ⟨(rfl : nilOk _ = some _), ?_⟩
            | refine ⟨_, ints_len (by assumption), ?_⟩
            | refine ⟨_, ints_addr (by assumption) (by omega) (by omega), ?_⟩
            | refine ⟨_, ints_load (by assumption) (by omega) (by omega), ?_⟩
            | refine ⟨(⟨by omega, by omega⟩ : inI64 _), ?_⟩
            | refine ⟨_, fun tm ha => step1_max rfl (ev_tmp ha rfl) (ev_tmp ha rfl), ?_⟩
            | refine ⟨_, fun tm ha => step1_min rfl (ev_tmp ha rfl) (ev_tmp ha rfl), ?_⟩
            | (refine ⟨fun _ => ?_, fun _ => ?_⟩ <;> first | (exfalso; omega) | skip)
            | fail
          refine ⟨(i + 1), (by repeat' first | exact trivial | refine ⟨rfl, ?_⟩ | refine ⟨slot_int (by (try simp only [Int.toNat_natCast]); omega), ?_⟩), (by (try dsimp only); omega), ?_⟩
          exact ⟨by omega, by rw [hse]; exact hly, kxy⟩
  · repeat' first
      | refine CO.cons rfl ?_
      | refine CO.nil ?_
      | refine CV.seq ?_
      | refine CV.region callees ?_
      | refine CV.cond ?_
      | refine CV.block ?_
      | refine CV.skip ?_
      | refine CV.exit ?_
      | refine CV.ret ?_
      | refine CV.scope ?_
      | refine CV.draw callees (by decide +kernel) ?_
      | refine CH.cons rfl ?_
      | refine CH.nil ?_
      | refine CO.consG rfl ?_
      | refine CH.consG rfl ?_
      | refine CG.cons rfl ?_
      | refine CR.cons ?_
      | refine CR.nil ?_
      | refine CG.nil ?_
      | refine CG.consG rfl ?_
      | refine ⟨(rfl : plain _ = true), ?_⟩
      | refine ⟨(rfl : nilOk _ = some _), ?_⟩
      | refine ⟨_, ints_len (by assumption), ?_⟩
      | refine ⟨_, ints_addr (by assumption) (by omega) (by omega), ?_⟩
      | refine ⟨_, ints_load (by assumption) (by omega) (by omega), ?_⟩
      | refine ⟨(⟨by omega, by omega⟩ : inI64 _), ?_⟩
      | refine ⟨_, fun tm ha => step1_max rfl (ev_tmp ha rfl) (ev_tmp ha rfl), ?_⟩
      | refine ⟨_, fun tm ha => step1_min rfl (ev_tmp ha rfl) (ev_tmp ha rfl), ?_⟩
      | (refine ⟨_, loadK hgx, ?_⟩)
      | (refine ⟨fun _ => ?_, fun _ => ?_⟩ <;> first | (exfalso; omega) | skip)
      | fail
    refine (hre (by omega) hkx).mono ?_
    rintro r Hy ⟨rfl, ky⟩
    have ly := ky.1
    have hbe : (decide (vd = 2) == decide (mo = 0)) = true := by rw [beq_iff_eq, decide_eq_decide]; exact hv2
    repeat' first
      | refine CO.cons rfl ?_
      | refine CO.nil ?_
      | refine CV.seq ?_
      | refine CV.region callees ?_
      | refine CV.cond ?_
      | refine CV.block ?_
      | refine CV.skip ?_
      | refine CV.exit ?_
      | refine CV.ret ?_
      | refine CV.scope ?_
      | refine CV.draw callees (by decide +kernel) ?_
      | refine CH.cons rfl ?_
      | refine CH.nil ?_
      | refine CO.consG rfl ?_
      | refine CH.consG rfl ?_
      | refine CG.cons rfl ?_
      | refine CR.cons ?_
      | refine CR.nil ?_
      | refine CG.nil ?_
      | refine CG.consG rfl ?_
      | refine ⟨(rfl : plain _ = true), ?_⟩
      | refine ⟨(rfl : nilOk _ = some _), ?_⟩
      | refine ⟨_, ints_len (by assumption), ?_⟩
      | refine ⟨_, ints_addr (by assumption) (by omega) (by omega), ?_⟩
      | refine ⟨_, ints_load (by assumption) (by omega) (by omega), ?_⟩
      | refine ⟨(⟨by omega, by omega⟩ : inI64 _), ?_⟩
      | refine ⟨_, fun tm ha => step1_max rfl (ev_tmp ha rfl) (ev_tmp ha rfl), ?_⟩
      | refine ⟨_, fun tm ha => step1_min rfl (ev_tmp ha rfl) (ev_tmp ha rfl), ?_⟩
      | refine ⟨_, fun tm ha => step1_boolEql un4 rfl (ev_tmp ha rfl) (ev_tmp ha rfl), ?_⟩
      | (refine ⟨fun _ => ?_, fun _ => ?_⟩ <;> first | (exfalso; omega) | skip)
      | fail
    all_goals refine CallB.known (v := .bool true) rfl trivial (by omega) ?_
    all_goals
      repeat' first
        | refine CO.cons rfl ?_
        | refine CO.nil ?_
        | refine CV.seq ?_
        | refine CV.region callees ?_
        | refine CV.cond ?_
        | refine CV.block ?_
        | refine CV.skip ?_
        | refine CV.exit ?_
        | refine CV.ret ?_
        | refine CV.scope ?_
        | refine CV.draw callees (by decide +kernel) ?_
        | refine CH.cons rfl ?_
        | refine CH.nil ?_
        | refine CO.consG rfl ?_
        | refine CH.consG rfl ?_
        | refine CG.cons rfl ?_
        | refine CR.cons ?_
        | refine CR.nil ?_
        | refine CG.nil ?_
        | refine CG.consG rfl ?_
        | refine ⟨(rfl : plain _ = true), ?_⟩
        | refine ⟨(rfl : nilOk _ = some _), ?_⟩
        | refine ⟨_, ints_len (by assumption), ?_⟩
        | refine ⟨_, ints_addr (by assumption) (by omega) (by omega), ?_⟩
        | refine ⟨_, ints_load (by assumption) (by omega) (by omega), ?_⟩
        | refine ⟨(⟨by omega, by omega⟩ : inI64 _), ?_⟩
        | refine ⟨_, fun tm ha => step1_max rfl (ev_tmp ha rfl) (ev_tmp ha rfl), ?_⟩
        | refine ⟨_, fun tm ha => step1_min rfl (ev_tmp ha rfl) (ev_tmp ha rfl), ?_⟩
        | (refine ⟨fun _ => ?_, fun _ => ?_⟩ <;> first | (exfalso; omega) | skip)
        | fail
      exact ⟨rfl, rfl⟩
end Go.Proofs.Ytbgbepnccdndoaa
