
/- No better guess: the law's function. -/
import Derived.Test.YtbgbepnccdndoaaRfd
set_option linter.unusedVariables false
set_option linter.unusedSimpArgs false
namespace Go.Proofs.Ytbgbepnccdndoaa
open Go.AI
set_option linter.unusedVariables false
set_option linter.unusedSimpArgs false
theorem idx_first : ∀ (l : List Int) (m : Int) (i : Nat), i < l.idxOf m → l[i]! ≠ m
  | [], m, i, h => by simp at h
  | x :: l, m, 0, h => fun e => by
    have e : x = m := e
    subst e
    rw [List.idxOf_cons_self] at h; omega
  | x :: l, m, i + 1, h => by
    rw [List.idxOf_cons] at h
    by_cases e : x = m
    · subst e; simp at h
    · have hb : (x == m) = false := by simp [e]
      rw [hb] at h
      simp only [cond_false] at h
      have hl : i < l.idxOf m := by omega
      have hle := List.idxOf_le_length (a := m) (l := l)
      rw [cons_at (by omega)]
      exact idx_first l m i hl
theorem idx_at {l : List Int} {m : Int} (h : m ∈ l) : l[l.idxOf m]! = m := by
  have hi := List.idxOf_lt_length_iff.2 h
  rw [getElem!_pos l _ hi, List.getElem_idxOf]
set_option maxRecDepth 100000 in
set_option maxHeartbeats 4000000 in
theorem guess_spec {v : Value} {H : Heap} {nums : List Int} (hBase : Base H) (hv : Ints H v nums) (hx : nums.length ≤ 9223372036854775807) (_ : ∀ x ∈ nums, inI64 x) :
    CallB Try.prog H.n 11 [v] H (fun r _ => r = .bool true) := by
  have hn : H.n ≤ H.n := Nat.le_refl _
  refine CV.enter callees false rfl Try.func11 rfl (by kernel_rfl) (Nat.le_of_ble_eq_true rfl) hn ?_
  repeat' first
    | refine CO.cons rfl ?_
    | refine CO.nil ?_
    | refine CV.seq ?_
    | refine CV.region callees ?_
    | refine CV.cond ?_
    | refine CV.block ?_
    | refine CV.skip ?_
    | refine CV.exit ?_
    | refine CV.ret ?_
    | refine CV.scope ?_
    | refine CV.draw callees (by decide +kernel) ?_
    | refine CH.cons rfl ?_
    | refine CH.nil ?_
    | refine CO.consG rfl ?_
    | refine CH.consG rfl ?_
    | refine CG.cons rfl ?_
    | refine CR.cons ?_
    | refine CR.nil ?_
    | refine CG.nil ?_
    | refine CG.consG rfl ?_
    | refine ⟨(rfl : plain _ = true), ?_⟩
    | refine ⟨(rfl : nilOk _ = some _), ?_⟩
    | refine ⟨_, ints_len (by assumption), ?_⟩
    | refine ⟨_, ints_addr (by assumption) (by omega) (by omega), ?_⟩
    | refine ⟨_, ints_load (by assumption) (by omega) (by omega), ?_⟩
    | refine ⟨(⟨by omega, by omega⟩ : inI64 _), ?_⟩
    | refine ⟨_, fun tm ha => step1_max rfl (ev_tmp ha rfl) (ev_tmp ha rfl), ?_⟩
    | refine ⟨_, fun tm ha => step1_min rfl (ev_tmp ha rfl) (ev_tmp ha rfl), ?_⟩
    | (refine ⟨fun _ => ?_, fun _ => ?_⟩ <;> first | (exfalso; omega) | skip)
    | fail
  refine (boxOf_spec hn hv hx).mono ?_
  rintro r H1 ⟨⟨b, rfl, hb, hbox⟩, k1⟩
  have l1 := k1.1
  have hbn := hbox.1
  repeat' first
    | refine CO.cons rfl ?_
    | refine CO.nil ?_
    | refine CV.seq ?_
    | refine CV.region callees ?_
    | refine CV.cond ?_
    | refine CV.block ?_
    | refine CV.skip ?_
    | refine CV.exit ?_
    | refine CV.ret ?_
    | refine CV.scope ?_
    | refine CV.draw callees (by decide +kernel) ?_
    | refine CH.cons rfl ?_
    | refine CH.nil ?_
    | refine CO.consG rfl ?_
    | refine CH.consG rfl ?_
    | refine CG.cons rfl ?_
    | refine CR.cons ?_
    | refine CR.nil ?_
    | refine CG.nil ?_
    | refine CG.consG rfl ?_
    | refine ⟨(rfl : plain _ = true), ?_⟩
    | refine ⟨(rfl : nilOk _ = some _), ?_⟩
    | refine ⟨_, ints_len (by assumption), ?_⟩
    | refine ⟨_, ints_addr (by assumption) (by omega) (by omega), ?_⟩
    | refine ⟨_, ints_load (by assumption) (by omega) (by omega), ?_⟩
    | refine ⟨(⟨by omega, by omega⟩ : inI64 _), ?_⟩
    | refine ⟨_, fun tm ha => step1_max rfl (ev_tmp ha rfl) (ev_tmp ha rfl), ?_⟩
    | refine ⟨_, fun tm ha => step1_min rfl (ev_tmp ha rfl) (ev_tmp ha rfl), ?_⟩
    | (refine ⟨fun _ => ?_, fun _ => ?_⟩ <;> first | (exfalso; omega) | skip)
    | fail
  refine (stockOfG_spec (kn := 5) (ct := 6) (dr := 6) (by omega) (by omega) (by omega) hb l1 hbox).mono ?_
  rintro r H2 ⟨⟨k, xs, d, rfl, hk2, hS, hd6⟩, hb2, x2⟩
  have l2 := x2.1
  repeat' first
    | refine CO.cons rfl ?_
    | refine CO.nil ?_
    | refine CV.seq ?_
    | refine CV.region callees ?_
    | refine CV.cond ?_
    | refine CV.block ?_
    | refine CV.skip ?_
    | refine CV.exit ?_
    | refine CV.ret ?_
    | refine CV.scope ?_
    | refine CV.draw callees (by decide +kernel) ?_
    | refine CH.cons rfl ?_
    | refine CH.nil ?_
    | refine CO.consG rfl ?_
    | refine CH.consG rfl ?_
    | refine CG.cons rfl ?_
    | refine CR.cons ?_
    | refine CR.nil ?_
    | refine CG.nil ?_
    | refine CG.consG rfl ?_
    | refine ⟨(rfl : plain _ = true), ?_⟩
    | refine ⟨(rfl : nilOk _ = some _), ?_⟩
    | refine ⟨_, ints_len (by assumption), ?_⟩
    | refine ⟨_, ints_addr (by assumption) (by omega) (by omega), ?_⟩
    | refine ⟨_, ints_load (by assumption) (by omega) (by omega), ?_⟩
    | refine ⟨(⟨by omega, by omega⟩ : inI64 _), ?_⟩
    | refine ⟨_, fun tm ha => step1_max rfl (ev_tmp ha rfl) (ev_tmp ha rfl), ?_⟩
    | refine ⟨_, fun tm ha => step1_min rfl (ev_tmp ha rfl) (ev_tmp ha rfl), ?_⟩
    | (refine ⟨_, _, allocK, ?_⟩)
    | (refine ⟨fun _ => ?_, fun _ => ?_⟩ <;> first | (exfalso; omega) | skip)
    | fail
  generalize hs3 : H2.new (Kc (.slice none 0 0) 0) = H3
  have hg3 := new_get hs3
  have k3 := new_keep hs3
  have n3 := new_n hs3
  obtain ⟨b4, hb4⟩ : ∃ b4, H2.n = b4 := ⟨_, rfl⟩
  rw [hb4] at hg3 n3 ⊢
  refine ⟨_, _, storeK hk2.row.oneC.1 hg3, by omega, ?_⟩
  generalize hs4 : Heap.set H3 b4 _ = H4
  have hg4 : H4.get b4 = some (Kc k d) := set_get hs4
  have n4 := set_n hs4
  have k24 : Keep H2 H4 := keep_put k3 (by omega) (set_old hs4) n4
  have hk4 : Ints H4 k xs := Row.keep hk2.row k24
  repeat' first
    | refine CO.cons rfl ?_
    | refine CO.nil ?_
    | refine CV.seq ?_
    | refine CV.region callees ?_
    | refine CV.cond ?_
    | refine CV.block ?_
    | refine CV.skip ?_
    | refine CV.exit ?_
    | refine CV.ret ?_
    | refine CV.scope ?_
    | refine CV.draw callees (by decide +kernel) ?_
    | refine CH.cons rfl ?_
    | refine CH.nil ?_
    | refine CO.consG rfl ?_
    | refine CH.consG rfl ?_
    | refine CG.cons rfl ?_
    | refine CR.cons ?_
    | refine CR.nil ?_
    | refine CG.nil ?_
    | refine CG.consG rfl ?_
    | refine ⟨(rfl : plain _ = true), ?_⟩
    | refine ⟨(rfl : nilOk _ = some _), ?_⟩
    | refine ⟨_, ints_len (by assumption), ?_⟩
    | refine ⟨_, ints_addr (by assumption) (by omega) (by omega), ?_⟩
    | refine ⟨_, ints_load (by assumption) (by omega) (by omega), ?_⟩
    | refine ⟨(⟨by omega, by omega⟩ : inI64 _), ?_⟩
    | refine ⟨_, fun tm ha => step1_max rfl (ev_tmp ha rfl) (ev_tmp ha rfl), ?_⟩
    | refine ⟨_, fun tm ha => step1_min rfl (ev_tmp ha rfl) (ev_tmp ha rfl), ?_⟩
    | (refine ⟨_, loadK hg4, ?_⟩)
    | (refine ⟨fun _ => ?_, fun _ => ?_⟩ <;> first | (exfalso; omega) | skip)
    | fail
  refine (Shapes_spec (by omega) hk4 hS hd6).mono ?_
  rintro r H5 ⟨⟨l, rfl, hl⟩, k5⟩
  have l5 := k5.1
  have hg5 : H5.get b4 = some (Kc k d) := by rw [k5.2 b4 (by omega)]; exact hg4
  have hk5 : Ints H5 k xs := Row.keep hk4 k5
  repeat' first
    | refine CO.cons rfl ?_
    | refine CO.nil ?_
    | refine CV.seq ?_
    | refine CV.region callees ?_
    | refine CV.cond ?_
    | refine CV.block ?_
    | refine CV.skip ?_
    | refine CV.exit ?_
    | refine CV.ret ?_
    | refine CV.scope ?_
    | refine CV.draw callees (by decide +kernel) ?_
    | refine CH.cons rfl ?_
    | refine CH.nil ?_
    | refine CO.consG rfl ?_
    | refine CH.consG rfl ?_
    | refine CG.cons rfl ?_
    | refine CR.cons ?_
    | refine CR.nil ?_
    | refine CG.nil ?_
    | refine CG.consG rfl ?_
    | refine ⟨(rfl : plain _ = true), ?_⟩
    | refine ⟨(rfl : nilOk _ = some _), ?_⟩
    | refine ⟨_, ints_len (by assumption), ?_⟩
    | refine ⟨_, ints_addr (by assumption) (by omega) (by omega), ?_⟩
    | refine ⟨_, ints_load (by assumption) (by omega) (by omega), ?_⟩
    | refine ⟨(⟨by omega, by omega⟩ : inI64 _), ?_⟩
    | refine ⟨_, fun tm ha => step1_max rfl (ev_tmp ha rfl) (ev_tmp ha rfl), ?_⟩
    | refine ⟨_, fun tm ha => step1_min rfl (ev_tmp ha rfl) (ev_tmp ha rfl), ?_⟩
    | (refine ⟨_, loadK hg5, ?_⟩)
    | (refine ⟨fun _ => ?_, fun _ => ?_⟩ <;> first | (exfalso; omega) | skip)
    | fail
  refine (Guess_spec (by omega) hk5 hS hd6).mono ?_
  rintro r H6 ⟨⟨p, m, rfl, hm, hp⟩, k6⟩
  have l6 := k6.1
  have hg6 : H6.get b4 = some (Kc k d) := by rw [k6.2 b4 (by omega)]; exact hg5
  have hl6 : Ints H6 l (shapesL xs d.toNat) := Row.keep hl.row k6
  obtain ⟨s1, s2, s3, s4, s5, s6⟩ := id hS
  have hdn : d = ((d.toNat : Nat) : Int) := by omega
  have hlen := shapes_len (xs := xs) (n := d.toNat)
  obtain ⟨c0, c1, c2⟩ := cnt_small (n := d.toNat) (by omega) (by omega)
  have hun := fun (r : Nat) => un_facts (n := d.toNat) (r := r) (by omega) (by omega)
  generalize shapesL xs d.toNat = L at hlen hl6 hm hp ⊢
  have hix := List.idxOf_lt_length_iff.2 (max_mem hm)
  have hia := idx_at (max_mem hm)
  have hif := idx_first L m
  have hma := hm.2
  obtain ⟨u1, u2, _, u4⟩ := hun (L.idxOf m) (by omega)
  rw [← hdn] at u1 u2 u4
  generalize L.idxOf m = x at hix hia hif u1 u2 u4 hp
  repeat' first
    | refine CO.cons rfl ?_
    | refine CO.nil ?_
    | refine CV.seq ?_
    | refine CV.region callees ?_
    | refine CV.cond ?_
    | refine CV.block ?_
    | refine CV.skip ?_
    | refine CV.exit ?_
    | refine CV.ret ?_
    | refine CV.scope ?_
    | refine CV.draw callees (by decide +kernel) ?_
    | refine CH.cons rfl ?_
    | refine CH.nil ?_
    | refine CO.consG rfl ?_
    | refine CH.consG rfl ?_
    | refine CG.cons rfl ?_
    | refine CR.cons ?_
    | refine CR.nil ?_
    | refine CG.nil ?_
    | refine CG.consG rfl ?_
    | refine ⟨(rfl : plain _ = true), ?_⟩
    | refine ⟨(rfl : nilOk _ = some _), ?_⟩
    | refine ⟨_, ints_len (by assumption), ?_⟩
    | refine ⟨_, ints_addr (by assumption) (by omega) (by omega), ?_⟩
    | refine ⟨_, ints_load (by assumption) (by omega) (by omega), ?_⟩
    | refine ⟨(⟨by omega, by omega⟩ : inI64 _), ?_⟩
    | refine ⟨_, fun tm ha => step1_max rfl (ev_tmp ha rfl) (ev_tmp ha rfl), ?_⟩
    | refine ⟨_, fun tm ha => step1_min rfl (ev_tmp ha rfl) (ev_tmp ha rfl), ?_⟩
    | (refine ⟨fun _ => ?_, fun _ => ?_⟩ <;> first | (exfalso; omega) | skip)
    | fail
  refine (rank_spec (B := H.n) (H := H6) (by omega) (base_any _) hp).mono ?_
  rintro r H7 ⟨rfl, k7⟩
  have l7 := k7.1
  rw [u4, show pairV ((x : Int), 0) = .tuple #[.int .i64 (x : Int), .int .i64 0] from rfl]
  have hg7 : H7.get b4 = some (Kc k d) := by rw [k7.2 b4 (by omega)]; exact hg6
  have hl7 : Ints H7 l L := Row.keep hl6 k7
  have hp7 : Ints H7 p (unL d x) := Row.keep hp k7
  have hxx : L[((x : Nat) : Int).toNat]! = L[x]! := rfl
  repeat' first
    | refine CO.cons rfl ?_
    | refine CO.nil ?_
    | refine CV.seq ?_
    | refine CV.region callees ?_
    | refine CV.cond ?_
    | refine CV.block ?_
    | refine CV.skip ?_
    | refine CV.exit ?_
    | refine CV.ret ?_
    | refine CV.scope ?_
    | refine CV.draw callees (by decide +kernel) ?_
    | refine CH.cons rfl ?_
    | refine CH.nil ?_
    | refine CO.consG rfl ?_
    | refine CH.consG rfl ?_
    | refine CG.cons rfl ?_
    | refine CR.cons ?_
    | refine CR.nil ?_
    | refine CG.nil ?_
    | refine CG.consG rfl ?_
    | refine ⟨(rfl : plain _ = true), ?_⟩
    | refine ⟨(rfl : nilOk _ = some _), ?_⟩
    | refine ⟨_, ints_len (by assumption), ?_⟩
    | refine ⟨_, ints_addr (by assumption) (by omega) (by omega), ?_⟩
    | refine ⟨_, ints_load (by assumption) (by omega) (by omega), ?_⟩
    | refine ⟨(⟨by omega, by omega⟩ : inI64 _), ?_⟩
    | refine ⟨_, fun tm ha => step1_max rfl (ev_tmp ha rfl) (ev_tmp ha rfl), ?_⟩
    | refine ⟨_, fun tm ha => step1_min rfl (ev_tmp ha rfl) (ev_tmp ha rfl), ?_⟩
    | (refine ⟨_, addrK1, ?_⟩)
    | (refine ⟨Value.int .i64 d, cell_load ag3 hg7 rfl, ?_⟩)
    | (refine ⟨fun _ => ?_, fun _ => ?_⟩ <;> first | (exfalso; omega) | skip)
    | fail
  refine CV.loopc ?_
  refine WCv.rounds callees false (α := Nat) (fun i => [(4, l), (7, .int .i64 m), (9, .int .i64 (x : Int)), (11, .int .i64 (i : Int))]) (fun i Hz => i ≤ L.length ∧ Hz = H7) (fun i => L.length - i) (0) (by repeat' first | exact trivial | refine ⟨rfl, ?_⟩ | refine ⟨slot_int (by (try simp only [Int.toNat_natCast]); omega), ?_⟩) ?_ ?_
  · exact ⟨by omega, rfl⟩
  rintro i Hx ⟨hi, rfl⟩ hBx
  by_cases hi2 : i < L.length
  · have hii : L[((i : Nat) : Int).toNat]! = L[i]! := rfl
    have h1 := hma i hi2
    by_cases hlt : i < x
    · have h2 : ¬ L[i]! = m := hif i hlt
      repeat' first
        | refine CO.cons rfl ?_
        | refine CO.nil ?_
        | refine CV.seq ?_
        | refine CV.region callees ?_
        | refine CV.cond ?_
        | refine CV.block ?_
        | refine CV.skip ?_
        | refine CV.exit ?_
        | refine CV.ret ?_
        | refine CV.scope ?_
        | refine CV.draw callees (by decide +kernel) ?_
        | refine CH.cons rfl ?_
        | refine CH.nil ?_
        | refine CO.consG rfl ?_
        | refine CH.consG rfl ?_
        | refine CG.cons rfl ?_
        | refine CR.cons ?_
        | refine CR.nil ?_
        | refine CG.nil ?_
        | refine CG.consG rfl ?_
        | refine ⟨(rfl : plain _ = true), ?_⟩
        | refine ⟨(rfl : nilOk _ = some _), ?_⟩
        | refine ⟨_, ints_len (by assumption), ?_⟩
        | refine ⟨_, ints_addr (by assumption) (by omega) (by omega), ?_⟩
        | refine ⟨_, ints_load (by assumption) (by omega) (by omega), ?_⟩
        | refine ⟨(⟨by omega, by omega⟩ : inI64 _), ?_⟩
        | refine ⟨_, fun tm ha => step1_max rfl (ev_tmp ha rfl) (ev_tmp ha rfl), ?_⟩
        | refine ⟨_, fun tm ha => step1_min rfl (ev_tmp ha rfl) (ev_tmp ha rfl), ?_⟩
        | (refine ⟨fun _ => ?_, fun _ => ?_⟩ <;> first | (exfalso; omega) | skip)
        | fail
      refine ⟨(i + 1), (by repeat' first | exact trivial | refine ⟨rfl, ?_⟩ | refine ⟨slot_int (by (try simp only [Int.toNat_natCast]); omega), ?_⟩), (by (try dsimp only); omega), ?_⟩
      exact ⟨by omega, rfl⟩
    · repeat' first
        | refine CO.cons rfl ?_
        | refine CO.nil ?_
        | refine CV.seq ?_
        | refine CV.region callees ?_
        | refine CV.cond ?_
        | refine CV.block ?_
        | refine CV.skip ?_
        | refine CV.exit ?_
        | refine CV.ret ?_
        | refine CV.scope ?_
        | refine CV.draw callees (by decide +kernel) ?_
        | refine CH.cons rfl ?_
        | refine CH.nil ?_
        | refine CO.consG rfl ?_
        | refine CH.consG rfl ?_
        | refine CG.cons rfl ?_
        | refine CR.cons ?_
        | refine CR.nil ?_
        | refine CG.nil ?_
        | refine CG.consG rfl ?_
        | refine ⟨(rfl : plain _ = true), ?_⟩
        | refine ⟨(rfl : nilOk _ = some _), ?_⟩
        | refine ⟨_, ints_len (by assumption), ?_⟩
        | refine ⟨_, ints_addr (by assumption) (by omega) (by omega), ?_⟩
        | refine ⟨_, ints_load (by assumption) (by omega) (by omega), ?_⟩
        | refine ⟨(⟨by omega, by omega⟩ : inI64 _), ?_⟩
        | refine ⟨_, fun tm ha => step1_max rfl (ev_tmp ha rfl) (ev_tmp ha rfl), ?_⟩
        | refine ⟨_, fun tm ha => step1_min rfl (ev_tmp ha rfl) (ev_tmp ha rfl), ?_⟩
        | (refine ⟨fun _ => ?_, fun _ => ?_⟩ <;> first | (exfalso; omega) | skip)
        | fail
      refine ⟨(i + 1), (by repeat' first | exact trivial | refine ⟨rfl, ?_⟩ | refine ⟨slot_int (by (try simp only [Int.toNat_natCast]); omega), ?_⟩), (by (try dsimp only); omega), ?_⟩
      exact ⟨by omega, rfl⟩
  · repeat' first
      | refine CO.cons rfl ?_
      | refine CO.nil ?_
      | refine CV.seq ?_
      | refine CV.region callees ?_
      | refine CV.cond ?_
      | refine CV.block ?_
      | refine CV.skip ?_
      | refine CV.exit ?_
      | refine CV.ret ?_
      | refine CV.scope ?_
      | refine CV.draw callees (by decide +kernel) ?_
      | refine CH.cons rfl ?_
      | refine CH.nil ?_
      | refine CO.consG rfl ?_
      | refine CH.consG rfl ?_
      | refine CG.cons rfl ?_
      | refine CR.cons ?_
      | refine CR.nil ?_
      | refine CG.nil ?_
      | refine CG.consG rfl ?_
      | refine ⟨(rfl : plain _ = true), ?_⟩
      | refine ⟨(rfl : nilOk _ = some _), ?_⟩
      | refine ⟨_, ints_len (by assumption), ?_⟩
      | refine ⟨_, ints_addr (by assumption) (by omega) (by omega), ?_⟩
      | refine ⟨_, ints_load (by assumption) (by omega) (by omega), ?_⟩
      | refine ⟨(⟨by omega, by omega⟩ : inI64 _), ?_⟩
      | refine ⟨_, fun tm ha => step1_max rfl (ev_tmp ha rfl) (ev_tmp ha rfl), ?_⟩
      | refine ⟨_, fun tm ha => step1_min rfl (ev_tmp ha rfl) (ev_tmp ha rfl), ?_⟩
      | (refine ⟨fun _ => ?_, fun _ => ?_⟩ <;> first | (exfalso; omega) | skip)
      | fail
    refine @CallB.known Try.prog (Oracle.of Try.prog kn2) _ _ (.bool true) Hx _ rfl trivial (by omega) ?_
    repeat' first
      | refine CO.cons rfl ?_
      | refine CO.nil ?_
      | refine CV.seq ?_
      | refine CV.region callees ?_
      | refine CV.cond ?_
      | refine CV.block ?_
      | refine CV.skip ?_
      | refine CV.exit ?_
      | refine CV.ret ?_
      | refine CV.scope ?_
      | refine CV.draw callees (by decide +kernel) ?_
      | refine CH.cons rfl ?_
      | refine CH.nil ?_
      | refine CO.consG rfl ?_
      | refine CH.consG rfl ?_
      | refine CG.cons rfl ?_
      | refine CR.cons ?_
      | refine CR.nil ?_
      | refine CG.nil ?_
      | refine CG.consG rfl ?_
      | refine ⟨(rfl : plain _ = true), ?_⟩
      | refine ⟨(rfl : nilOk _ = some _), ?_⟩
      | refine ⟨_, ints_len (by assumption), ?_⟩
      | refine ⟨_, ints_addr (by assumption) (by omega) (by omega), ?_⟩
      | refine ⟨_, ints_load (by assumption) (by omega) (by omega), ?_⟩
      | refine ⟨(⟨by omega, by omega⟩ : inI64 _), ?_⟩
      | refine ⟨_, fun tm ha => step1_max rfl (ev_tmp ha rfl) (ev_tmp ha rfl), ?_⟩
      | refine ⟨_, fun tm ha => step1_min rfl (ev_tmp ha rfl) (ev_tmp ha rfl), ?_⟩
      | (refine ⟨fun _ => ?_, fun _ => ?_⟩ <;> first | (exfalso; omega) | skip)
      | fail
    exact ⟨rfl, rfl⟩
end Go.Proofs.Ytbgbepnccdndoaa
