
/- Who may be the holder on a day, if these are the events: gathered in a map. -/
import Derived.Test.YtijimplcjaeneaaGreatDoorc5z
set_option linter.unusedVariables false
set_option linter.unusedSimpArgs false
namespace Go.AI
theorem RowS.keepM {s : Nat} {H H' : Heap} {r : Nat} {v : Value} {rs : List (List Value)} {es : List (Value × Value)} (h : RowS s H v rs) (k : KeepX r H H') (hr : H.get r = some (.map es)) : RowS s H' v rs := by
  refine ⟨h.1, ?_⟩
  rcases h.2 with h | h | ⟨b', i, c, cs, e, kd, h1, h2, h3, h4, h5⟩
  · exact .inl h
  · exact .inr (.inl h)
  · refine .inr (.inr ⟨b', i, c, cs, e, kd, h1, Nat.lt_of_lt_of_le h2 k.1, ?_, h4, h5⟩)
    rw [k.2 b' h2 (by rintro rfl; rw [hr] at h3; cases h3)]; exact h3
theorem Row.keepM {H H' : Heap} {r : Nat} {v : Value} {vs : List Value} {es : List (Value × Value)} (h : Row H v vs) (k : KeepX r H H') (hr : H.get r = some (.map es)) : Row H' v vs := by
  rcases h with h | h | ⟨b', i, c, cs, e, kd, h1, h2, h3, h4, h5⟩
  · exact .inl h
  · exact .inr (.inl h)
  · refine .inr (.inr ⟨b', i, c, cs, e, kd, h1, Nat.lt_of_lt_of_le h2 k.1, ?_, h4, h5⟩)
    rw [k.2 b' h2 (by rintro rfl; rw [hr] at h3; cases h3)]; exact h3
end Go.AI
namespace Go.Proofs.YtijimplcjaeneaaGreatDoor
open Go.AI
theorem unMB : Tryz.prog.underlying 106 = some (.map 3 4) := by kernel_rfl
def entK (ks : List Int) : List (Value × Value) := ks.map fun k => (VI k, Value.bool true)
def addK (ks : List Int) (x : Int) : List Int := if x ∈ ks then ks else ks ++ [x]
theorem findK {k0 : IntKind} (x : Int) : ∀ (ks : List Int) (j : Nat), findA (.int k0) (VI x) (entK ks) j = some (if x ∈ ks then some (j + ks.idxOf x, .bool true) else none)
  | [], _ => by simp [entK, findA]
  | y :: r, j => by
    have ih := findK (k0 := k0) x r (j + 1)
    simp only [entK, List.map_cons, findA, Instr.sameNow, if_true] at ih ⊢
    by_cases h : x = y
    · subst h; simp
    · have h' : (x == y) = false := by simpa using h
      rw [h']
      simp only []
      rw [ih]
      have h2 : ¬ y = x := fun h3 => h h3.symm
      simp only [List.mem_cons, h, false_or, List.idxOf_cons, beq_eq_false_iff_ne.2 h2, cond_false]
      split
      · rw [show j + 1 + List.idxOf x r = j + (List.idxOf x r + 1) by omega]
      · rfl
theorem updateK {H : Heap} {r : Nat} {ks : List Int} {x : Int} (hr : H.get r = some (.map (entK ks))) : amapUpdate Tryz.prog H 106 (.map (some r)) (VI x) (.bool true) = some (H.set r (.map (entK (addK ks x))), r) := by
  simp only [amapUpdate, unMB, hr, un3]
  rw [if_pos ⟨rfl, rfl, checkKey_int un3⟩, findK]
  unfold addK
  by_cases hx : x ∈ ks
  · rw [if_pos hx, if_pos hx]
    simp only [Nat.zero_add]
    have hi : ks.idxOf x < ks.length := List.idxOf_lt_length_of_mem hx
    have : (entK ks).set (ks.idxOf x) (VI x, Value.bool true) = entK ks := by
      apply List.ext_getElem (by simp)
      intro j h1 h2
      rw [List.getElem_set]
      split
      · rename_i e
        subst e
        simp [entK]
      · rfl
    rw [this]
  · rw [if_neg hx, if_neg hx]
    simp only [entK, List.map_append, List.map_cons, List.map_nil]
def gathK (d : Int) : List Int → Int → List Ev → List Int
  | ks, h, [] => addK ks h
  | ks, h, e :: t => if d < e.lo then (if d < e.hi then addK ks h else ks) else gathK d (if d < e.hi then addK ks h else ks) e.o t
set_option maxHeartbeats 16000000 in
set_option maxRecDepth 100000 in
theorem gather_spec [Orc] {B r : Nat} {H : Heap} {ev : Value} {E : List Ev} {ks : List Int} {d : Int} (hB : B ≤ r) (hrn : r < H.n) (hm : H.get r = some (.map (entK ks))) (hE : RowS 4 H ev (E.map Evl)) (hEl : E.length < 1000000) :
    CallB Tryz.prog B 56 [.map (some r), ev, VI d] H (fun _ H' => H'.get r = some (.map (entK (gathK d ks (-1) E))) ∧ KeepX r H H') := by
  have hBn : B ≤ H.n := by omega
  refine CV.enter callees false (Orc.hv rfl rfl) Tryz.func56 rfl (by kernel_rfl) (Nat.le_of_ble_eq_true rfl) hBn ?_ (Orc.hw rfl rfl)
  repeat' first
    | refine CO.cons rfl ?_
    | refine CO.nil ?_
    | refine CV.seq ?_
    | refine CV.region callees ?_
    | refine CV.cond ?_
    | refine CV.block ?_
    | refine CV.skip ?_
    | refine CV.exit ?_
    | refine CV.ret ?_
    | refine CV.scope ?_
    | refine CV.draw callees (by decide +kernel) ?_
    | refine CH.cons rfl ?_
    | refine CH.nil ?_
    | refine CO.consG rfl ?_
    | refine CH.consG rfl ?_
    | refine CG.cons rfl ?_
    | refine CR.cons ?_
    | refine CR.nil ?_
    | refine CG.nil ?_
    | refine CG.consG rfl ?_
    | refine ⟨(rfl : plain _ = true), ?_⟩
    | refine ⟨(rfl : nilOk _ = some _), ?_⟩
    | refine ⟨_, ints_len (by assumption), ?_⟩
    | refine ⟨_, ints_addr (by assumption) (by omega) (by omega), ?_⟩
    | refine ⟨_, ints_load (by assumption) (by omega) (by omega), ?_⟩
    | refine ⟨(⟨by omega, by omega⟩ : inI64 _), ?_⟩
    | refine ⟨_, fun tm ha => step1_max rfl (ev_tmp ha rfl) (ev_tmp ha rfl), ?_⟩
    | refine ⟨_, fun tm ha => step1_min rfl (ev_tmp ha rfl) (ev_tmp ha rfl), ?_⟩
    | (refine ⟨_, ev_len hE, ?_⟩)
    | (refine ⟨fun _ => ?_, fun _ => ?_⟩ <;> first | (exfalso; omega) | skip)
    | fail
  refine CV.loopc ?_
  refine WCv.rounds callees false (α := Nat × Int × List Int) (fun (i, h, K) => [(0, .map (some r)), (2, VI d), (6, VI h), (9, ev), (10, VI E.length), (11, VI i)]) (fun (i, h, K) Hz => i ≤ E.length ∧ gathK d K h (E.drop i) = gathK d ks (-1) E ∧ Hz.get r = some (.map (entK K)) ∧ KeepX r H Hz ∧ r < Hz.n) (fun (i, h, K) => E.length - i) (0, -1, ks) (by repeat' first | exact trivial | refine ⟨rfl, ?_⟩ | refine ⟨slot_int (by (try simp only [Int.toNat_natCast]); omega), ?_⟩) ?_ ?_
  · exact ⟨by omega, rfl, hm, KeepX.refl _ _, hrn⟩
  rintro ⟨i, h, K⟩ Hx ⟨hi, hg, hmx, kx, lx⟩ hBx
  have hEx := hE.keepM kx hm
  by_cases hi2 : i < E.length
  · rw [show E.drop i = E[i]! :: E.drop (i + 1) by rw [List.drop_eq_getElem_cons hi2, getElem!_pos E i hi2]] at hg
    simp only [gathK] at hg
    repeat' first
      | refine CO.cons rfl ?_
      | refine CO.nil ?_
      | refine CV.seq ?_
      | refine CV.region callees ?_
      | refine CV.cond ?_
      | refine CV.block ?_
      | refine CV.skip ?_
      | refine CV.exit ?_
      | refine CV.ret ?_
      | refine CV.scope ?_
      | refine CV.draw callees (by decide +kernel) ?_
      | refine CH.cons rfl ?_
      | refine CH.nil ?_
      | refine CO.consG rfl ?_
      | refine CH.consG rfl ?_
      | refine CG.cons rfl ?_
      | refine CR.cons ?_
      | refine CR.nil ?_
      | refine CG.nil ?_
      | refine CG.consG rfl ?_
      | refine ⟨(rfl : plain _ = true), ?_⟩
      | refine ⟨(rfl : nilOk _ = some _), ?_⟩
      | refine ⟨_, ints_len (by assumption), ?_⟩
      | refine ⟨_, ints_addr (by assumption) (by omega) (by omega), ?_⟩
      | refine ⟨_, ints_load (by assumption) (by omega) (by omega), ?_⟩
      | refine ⟨(⟨by omega, by omega⟩ : inI64 _), ?_⟩
      | refine ⟨_, fun tm ha => step1_max rfl (ev_tmp ha rfl) (ev_tmp ha rfl), ?_⟩
      | refine ⟨_, fun tm ha => step1_min rfl (ev_tmp ha rfl) (ev_tmp ha rfl), ?_⟩
      | (refine ⟨_, ev_addr hEx (by omega) (by omega), ?_⟩)
      | (refine ⟨_, ev_load hEx hi2, ?_⟩)
      | (refine ⟨_, _, alEv, ?_⟩)
      | (refine ⟨fun _ => ?_, fun _ => ?_⟩ <;> first | (exfalso; omega) | skip)
      | fail
    generalize hs4 : Heap.new Hx _ = H4
    have hg4 := new_get hs4
    have k4 := new_keep hs4
    have n4 := new_n hs4
    obtain ⟨b4, hbn4⟩ : ∃ b, Heap.n Hx = b := ⟨_, rfl⟩
    rw [hbn4] at hg4 n4 ⊢
    repeat' first
      | refine CO.cons rfl ?_
      | refine CO.nil ?_
      | refine CV.seq ?_
      | refine CV.region callees ?_
      | refine CV.cond ?_
      | refine CV.block ?_
      | refine CV.skip ?_
      | refine CV.exit ?_
      | refine CV.ret ?_
      | refine CV.scope ?_
      | refine CV.draw callees (by decide +kernel) ?_
      | refine CH.cons rfl ?_
      | refine CH.nil ?_
      | refine CO.consG rfl ?_
      | refine CH.consG rfl ?_
      | refine CG.cons rfl ?_
      | refine CR.cons ?_
      | refine CR.nil ?_
      | refine CG.nil ?_
      | refine CG.consG rfl ?_
      | refine ⟨(rfl : plain _ = true), ?_⟩
      | refine ⟨(rfl : nilOk _ = some _), ?_⟩
      | refine ⟨_, ints_len (by assumption), ?_⟩
      | refine ⟨_, ints_addr (by assumption) (by omega) (by omega), ?_⟩
      | refine ⟨_, ints_load (by assumption) (by omega) (by omega), ?_⟩
      | refine ⟨(⟨by omega, by omega⟩ : inI64 _), ?_⟩
      | refine ⟨_, fun tm ha => step1_max rfl (ev_tmp ha rfl) (ev_tmp ha rfl), ?_⟩
      | refine ⟨_, fun tm ha => step1_min rfl (ev_tmp ha rfl) (ev_tmp ha rfl), ?_⟩
      | (refine ⟨fun _ => ?_, fun _ => ?_⟩ <;> first | (exfalso; omega) | skip)
      | fail
    refine ⟨_, _, stEv hg4, by omega, ?_⟩
    generalize hs5 : Heap.set H4 b4 _ = H5
    have hg5 : H5.get b4 = some (.cells (Evl E[i]!) 125 1) := set_get hs5
    have n5 := set_n hs5
    have o5 := set_old hs5
    have k5 : Keep Hx H5 := keep_put k4 (by omega) o5 n5
    have hm5 := (k5.2 r (by omega)).trans hmx
    obtain ⟨e, he⟩ : ∃ e, E[i]! = e := ⟨_, rfl⟩
    rw [he] at hg hg5
    by_cases c1 : d < e.hi
    · rw [if_pos c1] at hg
      repeat' first
        | refine CO.cons rfl ?_
        | refine CO.nil ?_
        | refine CV.seq ?_
        | refine CV.region callees ?_
        | refine CV.cond ?_
        | refine CV.block ?_
        | refine CV.skip ?_
        | refine CV.exit ?_
        | refine CV.ret ?_
        | refine CV.scope ?_
        | refine CV.draw callees (by decide +kernel) ?_
        | refine CH.cons rfl ?_
        | refine CH.nil ?_
        | refine CO.consG rfl ?_
        | refine CH.consG rfl ?_
        | refine CG.cons rfl ?_
        | refine CR.cons ?_
        | refine CR.nil ?_
        | refine CG.nil ?_
        | refine CG.consG rfl ?_
        | refine ⟨(rfl : plain _ = true), ?_⟩
        | refine ⟨(rfl : nilOk _ = some _), ?_⟩
        | refine ⟨_, ints_len (by assumption), ?_⟩
        | refine ⟨_, ints_addr (by assumption) (by omega) (by omega), ?_⟩
        | refine ⟨_, ints_load (by assumption) (by omega) (by omega), ?_⟩
        | refine ⟨(⟨by omega, by omega⟩ : inI64 _), ?_⟩
        | refine ⟨_, fun tm ha => step1_max rfl (ev_tmp ha rfl) (ev_tmp ha rfl), ?_⟩
        | refine ⟨_, fun tm ha => step1_min rfl (ev_tmp ha rfl) (ev_tmp ha rfl), ?_⟩
        | (refine ⟨_, fS foE2 (by decide), ?_⟩)
        | (refine ⟨_, fS foS1 (by decide), ?_⟩)
        | (refine ⟨_, cell_load ag3 hg5 rfl, ?_⟩)
        | (refine ⟨fun _ => ?_, fun _ => ?_⟩ <;> first | (exfalso; omega) | skip)
        | fail
      refine ⟨_, _, updateK hm5, by omega, ?_⟩
      generalize hs6 : Heap.set H5 r _ = H6
      have hg6 := set_get hs6
      have n6 := set_n hs6
      have o6 := set_old hs6
      have hg5' := (o6 b4 (by omega)).trans hg5
      have kx6 : KeepX r H H6 := kx.trans ⟨by have := k5.1; omega, fun p hp hpr => (o6 p hpr).trans (k5.2 p hp)⟩
      by_cases c2 : d < e.lo
      · rw [if_pos c2] at hg
        rw [← hg]
        repeat' first
          | refine CO.cons rfl ?_
          | refine CO.nil ?_
          | refine CV.seq ?_
          | refine CV.region callees ?_
          | refine CV.cond ?_
          | refine CV.block ?_
          | refine CV.skip ?_
          | refine CV.exit ?_
          | refine CV.ret ?_
          | refine CV.scope ?_
          | refine CV.draw callees (by decide +kernel) ?_
          | refine CH.cons rfl ?_
          | refine CH.nil ?_
          | refine CO.consG rfl ?_
          | refine CH.consG rfl ?_
          | refine CG.cons rfl ?_
          | refine CR.cons ?_
          | refine CR.nil ?_
          | refine CG.nil ?_
          | refine CG.consG rfl ?_
          | refine ⟨(rfl : plain _ = true), ?_⟩
          | refine ⟨(rfl : nilOk _ = some _), ?_⟩
          | refine ⟨_, ints_len (by assumption), ?_⟩
          | refine ⟨_, ints_addr (by assumption) (by omega) (by omega), ?_⟩
          | refine ⟨_, ints_load (by assumption) (by omega) (by omega), ?_⟩
          | refine ⟨(⟨by omega, by omega⟩ : inI64 _), ?_⟩
          | refine ⟨_, fun tm ha => step1_max rfl (ev_tmp ha rfl) (ev_tmp ha rfl), ?_⟩
          | refine ⟨_, fun tm ha => step1_min rfl (ev_tmp ha rfl) (ev_tmp ha rfl), ?_⟩
          | (refine ⟨_, fS foE2 (by decide), ?_⟩)
          | (refine ⟨_, fS foS0 (by decide), ?_⟩)
          | (refine ⟨_, cell_load ag3 hg5' rfl, ?_⟩)
          | (refine ⟨fun _ => ?_, fun _ => ?_⟩ <;> first | (exfalso; omega) | skip)
          | fail
        exact ⟨rfl, hg6, kx6⟩
      · rw [if_neg c2] at hg
        repeat' first
          | refine CO.cons rfl ?_
          | refine CO.nil ?_
          | refine CV.seq ?_
          | refine CV.region callees ?_
          | refine CV.cond ?_
          | refine CV.block ?_
          | refine CV.skip ?_
          | refine CV.exit ?_
          | refine CV.ret ?_
          | refine CV.scope ?_
          | refine CV.draw callees (by decide +kernel) ?_
          | refine CH.cons rfl ?_
          | refine CH.nil ?_
          | refine CO.consG rfl ?_
          | refine CH.consG rfl ?_
          | refine CG.cons rfl ?_
          | refine CR.cons ?_
          | refine CR.nil ?_
          | refine CG.nil ?_
          | refine CG.consG rfl ?_
          | refine ⟨(rfl : plain _ = true), ?_⟩
          | refine ⟨(rfl : nilOk _ = some _), ?_⟩
          | refine ⟨_, ints_len (by assumption), ?_⟩
          | refine ⟨_, ints_addr (by assumption) (by omega) (by omega), ?_⟩
          | refine ⟨_, ints_load (by assumption) (by omega) (by omega), ?_⟩
          | refine ⟨(⟨by omega, by omega⟩ : inI64 _), ?_⟩
          | refine ⟨_, fun tm ha => step1_max rfl (ev_tmp ha rfl) (ev_tmp ha rfl), ?_⟩
          | refine ⟨_, fun tm ha => step1_min rfl (ev_tmp ha rfl) (ev_tmp ha rfl), ?_⟩
          | (refine ⟨_, fS foE2 (by decide), ?_⟩)
          | (refine ⟨_, fS foS0 (by decide), ?_⟩)
          | (refine ⟨_, fS foE1 (by decide), ?_⟩)
          | (refine ⟨_, cell_load ag3 hg5' rfl, ?_⟩)
          | (refine ⟨fun _ => ?_, fun _ => ?_⟩ <;> first | (exfalso; omega) | skip)
          | fail
        refine ⟨(i + 1, e.o, addK K h), (by repeat' first | exact trivial | refine ⟨rfl, ?_⟩ | refine ⟨slot_int (by (try simp only [Int.toNat_natCast]); omega), ?_⟩), (by (try dsimp only); omega), ?_⟩
        exact ⟨by omega, hg, hg6, kx6, by omega⟩
    · rw [if_neg c1] at hg
      have kx6 : KeepX r H H5 := kx.trans ⟨k5.1, fun p hp _ => k5.2 p hp⟩
      have l5 := k5.1
      by_cases c2 : d < e.lo
      · rw [if_pos c2] at hg
        rw [← hg]
        repeat' first
          | refine CO.cons rfl ?_
          | refine CO.nil ?_
          | refine CV.seq ?_
          | refine CV.region callees ?_
          | refine CV.cond ?_
          | refine CV.block ?_
          | refine CV.skip ?_
          | refine CV.exit ?_
          | refine CV.ret ?_
          | refine CV.scope ?_
          | refine CV.draw callees (by decide +kernel) ?_
          | refine CH.cons rfl ?_
          | refine CH.nil ?_
          | refine CO.consG rfl ?_
          | refine CH.consG rfl ?_
          | refine CG.cons rfl ?_
          | refine CR.cons ?_
          | refine CR.nil ?_
          | refine CG.nil ?_
          | refine CG.consG rfl ?_
          | refine ⟨(rfl : plain _ = true), ?_⟩
          | refine ⟨(rfl : nilOk _ = some _), ?_⟩
          | refine ⟨_, ints_len (by assumption), ?_⟩
          | refine ⟨_, ints_addr (by assumption) (by omega) (by omega), ?_⟩
          | refine ⟨_, ints_load (by assumption) (by omega) (by omega), ?_⟩
          | refine ⟨(⟨by omega, by omega⟩ : inI64 _), ?_⟩
          | refine ⟨_, fun tm ha => step1_max rfl (ev_tmp ha rfl) (ev_tmp ha rfl), ?_⟩
          | refine ⟨_, fun tm ha => step1_min rfl (ev_tmp ha rfl) (ev_tmp ha rfl), ?_⟩
          | (refine ⟨_, fS foE2 (by decide), ?_⟩)
          | (refine ⟨_, fS foS0 (by decide), ?_⟩)
          | (refine ⟨_, fS foS1 (by decide), ?_⟩)
          | (refine ⟨_, cell_load ag3 hg5 rfl, ?_⟩)
          | (refine ⟨fun _ => ?_, fun _ => ?_⟩ <;> first | (exfalso; omega) | skip)
          | fail
        exact ⟨rfl, hm5, kx6⟩
      · rw [if_neg c2] at hg
        repeat' first
          | refine CO.cons rfl ?_
          | refine CO.nil ?_
          | refine CV.seq ?_
          | refine CV.region callees ?_
          | refine CV.cond ?_
          | refine CV.block ?_
          | refine CV.skip ?_
          | refine CV.exit ?_
          | refine CV.ret ?_
          | refine CV.scope ?_
          | refine CV.draw callees (by decide +kernel) ?_
          | refine CH.cons rfl ?_
          | refine CH.nil ?_
          | refine CO.consG rfl ?_
          | refine CH.consG rfl ?_
          | refine CG.cons rfl ?_
          | refine CR.cons ?_
          | refine CR.nil ?_
          | refine CG.nil ?_
          | refine CG.consG rfl ?_
          | refine ⟨(rfl : plain _ = true), ?_⟩
          | refine ⟨(rfl : nilOk _ = some _), ?_⟩
          | refine ⟨_, ints_len (by assumption), ?_⟩
          | refine ⟨_, ints_addr (by assumption) (by omega) (by omega), ?_⟩
          | refine ⟨_, ints_load (by assumption) (by omega) (by omega), ?_⟩
          | refine ⟨(⟨by omega, by omega⟩ : inI64 _), ?_⟩
          | refine ⟨_, fun tm ha => step1_max rfl (ev_tmp ha rfl) (ev_tmp ha rfl), ?_⟩
          | refine ⟨_, fun tm ha => step1_min rfl (ev_tmp ha rfl) (ev_tmp ha rfl), ?_⟩
          | (refine ⟨_, fS foE2 (by decide), ?_⟩)
          | (refine ⟨_, fS foS0 (by decide), ?_⟩)
          | (refine ⟨_, fS foS1 (by decide), ?_⟩)
          | (refine ⟨_, fS foE1 (by decide), ?_⟩)
          | (refine ⟨_, cell_load ag3 hg5 rfl, ?_⟩)
          | (refine ⟨fun _ => ?_, fun _ => ?_⟩ <;> first | (exfalso; omega) | skip)
          | fail
        refine ⟨(i + 1, e.o, K), (by repeat' first | exact trivial | refine ⟨rfl, ?_⟩ | refine ⟨slot_int (by (try simp only [Int.toNat_natCast]); omega), ?_⟩), (by (try dsimp only); omega), ?_⟩
        exact ⟨by omega, hg, hm5, kx6, by omega⟩
  obtain rfl : i = E.length := by omega
  rw [List.drop_length] at hg
  simp only [gathK] at hg
  repeat' first
    | refine CO.cons rfl ?_
    | refine CO.nil ?_
    | refine CV.seq ?_
    | refine CV.region callees ?_
    | refine CV.cond ?_
    | refine CV.block ?_
    | refine CV.skip ?_
    | refine CV.exit ?_
    | refine CV.ret ?_
    | refine CV.scope ?_
    | refine CV.draw callees (by decide +kernel) ?_
    | refine CH.cons rfl ?_
    | refine CH.nil ?_
    | refine CO.consG rfl ?_
    | refine CH.consG rfl ?_
    | refine CG.cons rfl ?_
    | refine CR.cons ?_
    | refine CR.nil ?_
    | refine CG.nil ?_
    | refine CG.consG rfl ?_
    | refine ⟨(rfl : plain _ = true), ?_⟩
    | refine ⟨(rfl : nilOk _ = some _), ?_⟩
    | refine ⟨_, ints_len (by assumption), ?_⟩
    | refine ⟨_, ints_addr (by assumption) (by omega) (by omega), ?_⟩
    | refine ⟨_, ints_load (by assumption) (by omega) (by omega), ?_⟩
    | refine ⟨(⟨by omega, by omega⟩ : inI64 _), ?_⟩
    | refine ⟨_, fun tm ha => step1_max rfl (ev_tmp ha rfl) (ev_tmp ha rfl), ?_⟩
    | refine ⟨_, fun tm ha => step1_min rfl (ev_tmp ha rfl) (ev_tmp ha rfl), ?_⟩
    | (refine ⟨fun _ => ?_, fun _ => ?_⟩ <;> first | (exfalso; omega) | skip)
    | fail
  refine ⟨_, _, updateK hmx, by omega, ?_⟩
  rw [hg]
  generalize hs6 : Heap.set Hx r _ = H6
  have hg6 := set_get hs6
  have n6 := set_n hs6
  have o6 := set_old hs6
  repeat' first
    | refine CO.cons rfl ?_
    | refine CO.nil ?_
    | refine CV.seq ?_
    | refine CV.region callees ?_
    | refine CV.cond ?_
    | refine CV.block ?_
    | refine CV.skip ?_
    | refine CV.exit ?_
    | refine CV.ret ?_
    | refine CV.scope ?_
    | refine CV.draw callees (by decide +kernel) ?_
    | refine CH.cons rfl ?_
    | refine CH.nil ?_
    | refine CO.consG rfl ?_
    | refine CH.consG rfl ?_
    | refine CG.cons rfl ?_
    | refine CR.cons ?_
    | refine CR.nil ?_
    | refine CG.nil ?_
    | refine CG.consG rfl ?_
    | refine ⟨(rfl : plain _ = true), ?_⟩
    | refine ⟨(rfl : nilOk _ = some _), ?_⟩
    | refine ⟨_, ints_len (by assumption), ?_⟩
    | refine ⟨_, ints_addr (by assumption) (by omega) (by omega), ?_⟩
    | refine ⟨_, ints_load (by assumption) (by omega) (by omega), ?_⟩
    | refine ⟨(⟨by omega, by omega⟩ : inI64 _), ?_⟩
    | refine ⟨_, fun tm ha => step1_max rfl (ev_tmp ha rfl) (ev_tmp ha rfl), ?_⟩
    | refine ⟨_, fun tm ha => step1_min rfl (ev_tmp ha rfl) (ev_tmp ha rfl), ?_⟩
    | (refine ⟨fun _ => ?_, fun _ => ?_⟩ <;> first | (exfalso; omega) | skip)
    | fail
  exact ⟨rfl, hg6, kx.trans ⟨by omega, fun p _ hpr => o6 p hpr⟩⟩
end Go.Proofs.YtijimplcjaeneaaGreatDoor

