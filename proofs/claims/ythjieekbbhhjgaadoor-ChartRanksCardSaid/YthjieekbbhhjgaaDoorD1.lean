/- Tables in variables; ranks. -/
import Derived.Test.YthjieekbbhhjgaaDoorB8
import Derived.Test.YthjieekbbhhjgaaDoorEq
namespace Go.AI
def zeroCells (P : Program) (t : TypeId) : Option (List Value) :=
  match (P.info? t).bind (·.zero) with
  | some z => bif z.cells.toList.all scalar then some z.cells.toList else none
  | none => none
theorem alloc_of {P : Program} {H : Heap} {t : TypeId} {l : List Value} (h : zeroCells P t = some l) : sAlloc P H t = some (.pointer (some ⟨H.n, 0, none⟩), H.new (.cells l t 1), H.n) := by
  unfold zeroCells at h
  unfold sAlloc
  split at h
  · rename_i z hz
    rw [hz]
    cases hc : z.cells.toList.all scalar with
    | true =>
      rw [hc] at h
      cases h
      simp only [hc, if_true]
      rfl
    | false => rw [hc] at h; cases h
  · cases h
theorem splice_all : ∀ (vs cs : List Value) (i : Nat), i + vs.length ≤ cs.length → splice cs i vs = cs.take i ++ vs ++ cs.drop (i + vs.length)
  | [], cs, i, _ => by simp [splice]
  | v :: vs, cs, i, h => by
    simp only [List.length_cons] at h
    rw [splice, splice_all vs (cs.set i v) (i + 1) (by rw [List.length_set]; omega)]
    have h1 : (cs.set i v).take (i + 1) = cs.take i ++ [v] := by
      apply List.ext_getElem
      · simp; omega
      · intro j h1 h2
        simp only [List.length_take, List.length_set] at h1
        rw [List.getElem_take, List.getElem_set, List.getElem_append]
        by_cases hj : j < i
        · rw [if_neg (by omega), dif_pos (by simp; omega), List.getElem_take]
        · have : j = i := by omega
          subst this
          rw [if_pos rfl, dif_neg (by rw [List.length_take]; omega)]
          simp
    rw [h1, List.drop_set_of_lt (by omega)]
    simp [Nat.add_assoc, Nat.add_comm 1]
theorem store_all {P : Program} {H : Heap} {t e : TypeId} {b k : Nat} {cs vs : List Value} (hb : H.get b = some (.cells cs e (k + 1))) (hl : cs.length = vs.length) (hs : sizeB P t = some vs.length) (ho : vs.all oneC = true) :
    astore P t H (.agg vs.toArray) (.pointer (some ⟨b, 0, none⟩)) = some (H.set b (.cells vs e (k + 1)), b) := by
  have h1 : (Value.agg vs.toArray).cells = vs.toArray := rfl
  simp only [astore, hb, h1, hs]
  rw [if_pos ⟨by simp, by simp; omega, rfl, by simpa using ho⟩, splice_all _ _ _ (by simp; omega)]
  simp only [List.take_zero, List.nil_append, Nat.zero_add]
  rw [List.drop_eq_nil_of_le (by omega), List.append_nil]
theorem array_addr {P : Program} {t e : TypeId} {len s : Nat} (ht : P.underlying t = some (.array len e)) (hs : sizeB P e = some s) {b i : Nat} {k : Int} {kd : IntKind} (h0 : 0 ≤ k) (h1 : k < len) :
    aindexAddr P t (.pointer (some ⟨b, i, none⟩)) (.int kd k) = some (.pointer (some ⟨b, i + k.toNat * s, none⟩)) := by
  simp [aindexAddr, asIdx, ht, hs, h0, h1]
theorem row_slice {P : Program} {H : Heap} {t e : TypeId} {v : Value} {vs : List Value} {i : Int} {kd : IntKind} (ht : P.underlying t = some (.slice e)) (hs : sizeB P e = some 1) (hv : Row H v vs) (h0 : 0 ≤ i) (h1 : i ≤ vs.length) :
    ∃ r, aslice P t v none (some (some (.int kd i))) = some r ∧ Row H r (vs.take i.toNat) := by
  rcases hv with ⟨rfl, rfl⟩ | ⟨rfl, rfl⟩ | ⟨b, o, c, cs, e', k, rfl, h2, h3, h4, h5, h6⟩
  · simp at h1
    have : i = 0 := by omega
    subst this
    exact ⟨.slice none 0 0, by simp [aslice, ht, hs, bound], .inl ⟨rfl, by simp⟩⟩
  · simp at h1
    have : i = 0 := by omega
    subst this
    exact ⟨anon, by simp [aslice, anon, ht, hs, bound], .inr (.inl ⟨rfl, by simp⟩)⟩
  · refine ⟨.slice (some ⟨b, o, none⟩) i.toNat c, by simp [aslice, ht, hs, bound, h0, h1], .inr (.inr ⟨b, o, c, cs, e', k, ?_, h2, h3, h4, ?_, ?_⟩)⟩
    · rw [List.length_take]; congr 1; omega
    · rw [List.length_take]; omega
    · intro j w hj
      rw [List.getElem?_take] at hj
      split at hj
      · exact h6 j w hj
      · cases hj
end Go.AI
namespace Go.Proofs.YthjieekbbhhjgaaDoor
open Go.AI
theorem slice_ask {K : Value → Prop} {H : Heap} {v : Value} {xs : List Int} {i : Int} (hv : Ints H v xs) (h0 : 0 ≤ i) (h1 : i ≤ xs.length) (hk : ∀ r, Ints H r (xs.take i.toNat) → K r) :
    ∃ r, aslice Tryd.prog 22 v none (some (some (.int .i64 i))) = some r ∧ K r := by
  obtain ⟨r, h2, h3⟩ := row_slice (kd := .i64) un22 sz3 hv h0 (by simpa using h1)
  exact ⟨r, h2, hk r (by rw [← List.map_take] at h3; exact h3)⟩
theorem zero79 : zeroCells Tryd.prog 79 = some (List.replicate 100 (VI 0)) := by kernel_rfl
theorem sz79 : sizeB Tryd.prog 79 = some 100 := by kernel_rfl
theorem alloc79 {H : Heap} : sAlloc Tryd.prog H 79 = some (.pointer (some ⟨H.n, 0, none⟩), H.new (.cells (List.replicate 100 (VI 0)) 79 1), H.n) := alloc_of zero79
theorem store79 {H : Heap} {b : Nat} {cs : List Value} {T : List Int} (hT : T.length = 100) (hb : H.get b = some (.cells cs 79 1)) (hl : cs.length = 100) :
    astore Tryd.prog 79 H (tabV T) (.pointer (some ⟨b, 0, none⟩)) = some (H.set b (.cells (T.map VI) 79 1), b) :=
  store_all (vs := T.map VI) hb (by rw [List.length_map, hl, hT]) (by rw [List.length_map, hT]; exact sz79) (by simp [oneC])
theorem tab_addr {b i : Nat} {n : Int} (h0 : 0 ≤ n) (h1 : n < 10) : aindexAddr Tryd.prog 79 (.pointer (some ⟨b, i, none⟩)) (.int .i64 n) = some (.pointer (some ⟨b, i + n.toNat * 10, none⟩)) := array_addr un79 sz77 h0 (by omega)
theorem row_addr {b i : Nat} {n : Int} (h0 : 0 ≤ n) (h1 : n < 10) : aindexAddr Tryd.prog 77 (.pointer (some ⟨b, i, none⟩)) (.int .i64 n) = some (.pointer (some ⟨b, i + n.toNat * 1, none⟩)) := array_addr un77 sz3 h0 (by omega)
theorem tab_load {H : Heap} {b : Nat} {T : List Int} {n k : Int} (hT : T.length = 100) (hb : H.get b = some (.cells (T.map VI) 79 1)) (h0 : 0 ≤ n) (h1 : n < 10) (h2 : 0 ≤ k) (h3 : k < 10) :
    aload Tryd.prog 3 H (.pointer (some ⟨b, 0 + n.toNat * 10 + k.toNat * 1, none⟩)) = some (.int .i64 T[n.toNat * 10 + k.toNat]!) := by
  have hlt : n.toNat * 10 + k.toNat < T.length := by omega
  simp only [aload, hb, ag3]
  rw [show 0 + n.toNat * 10 + k.toNat * 1 = n.toNat * 10 + k.toNat by omega, List.getElem?_map, List.getElem?_eq_getElem hlt, getElem!_pos T _ hlt]
  rfl

/-- How many ways there are to go on. -/
def behM : Nat → Int → Int
  | 0, _ => 1
  | n + 1, b => b * behM n b + behM n (b + 1)
theorem beh_in : ∀ n < 10, ∀ b < 10, n + b ≤ 9 → 1 ≤ behM n (b : Nat) ∧ behM n (b : Nat) ≤ 21147 ∧ endT[n * 10 + b]! = behM n (b : Nat) := by decide +kernel
theorem beh_at {n : Nat} {b : Int} (h0 : 0 ≤ b) (h1 : (n : Int) + b ≤ 9) : 1 ≤ behM n b ∧ behM n b ≤ 21147 ∧ endT[n * 10 + b.toNat]! = behM n b := by
  have := beh_in n (by omega) b.toNat (by omega) (by omega)
  rwa [show ((b.toNat : Nat) : Int) = b by omega] at this
set_option maxRecDepth 100000 in
theorem behind_spec : ∀ (n : Nat) {B : Nat} {H : Heap} {m b : Int}, B ≤ H.n → m = n → 0 ≤ b → (n : Int) + b ≤ 9 →
    CallB Tryd.prog B 86 [.int .i64 m, .int .i64 b] H (fun r H' => r = .int .i64 (behM n b) ∧ H' = H)
  | 0, B, H, m, b, hB, hm, h0, h1 => by
    refine CV.enter callees false rfl Tryd.func86 rfl ok86 (Nat.le_of_ble_eq_true rfl) hB ?_
    repeat' first
      | refine CO.cons rfl ?_
      | refine CO.nil ?_
      | refine CV.seq ?_
      | refine CV.region callees ?_
      | refine CV.cond ?_
      | refine CV.block ?_
      | refine CV.skip ?_
      | refine CV.exit ?_
      | refine CV.ret ?_
      | refine CV.scope ?_
      | refine CV.draw callees ?_
      | refine CH.cons rfl ?_
      | refine CH.nil ?_
      | refine CO.consG rfl ?_
      | refine CH.consG rfl ?_
      | refine ⟨(rfl : plain _ = true), ?_⟩
      | refine ⟨(rfl : nilOk _ = some _), ?_⟩
      | refine ⟨_, ints_len (by assumption), ?_⟩
      | refine ⟨_, ints_addr (by assumption) (by omega) (by omega), ?_⟩
      | refine ⟨_, ints_load (by assumption) (by omega) (by omega), ?_⟩
      | refine ⟨(⟨by omega, by omega⟩ : inI64 _), ?_⟩
      | refine ⟨_, fun tm ha => step1_max rfl (ev_tmp ha rfl) (ev_tmp ha rfl), ?_⟩
      | refine ⟨_, fun tm ha => step1_min rfl (ev_tmp ha rfl) (ev_tmp ha rfl), ?_⟩
      | (refine ⟨fun _ => ?_, fun _ => ?_⟩ <;> first | (exfalso; omega) | skip)
      | fail
    all_goals exact ⟨rfl, rfl, rfl⟩
  | n + 1, B, H, m, b, hB, hm, h0, h1 => by
    refine CV.enter callees false rfl Tryd.func86 rfl ok86 (Nat.le_of_ble_eq_true rfl) hB ?_
    have b1 := beh_at (n := n) (b := b) (by omega) (by omega)
    have b2 := beh_at (n := n) (b := b + 1) (by omega) (by omega)
    have b3 : 0 ≤ b * behM n b ∧ b * behM n b ≤ 9 * 21147 := ⟨Int.mul_nonneg h0 (by omega), Int.mul_le_mul (by omega) b1.2.1 (by omega) (by decide)⟩
    repeat' first
      | refine CO.cons rfl ?_
      | refine CO.nil ?_
      | refine CV.seq ?_
      | refine CV.region callees ?_
      | refine CV.cond ?_
      | refine CV.block ?_
      | refine CV.skip ?_
      | refine CV.exit ?_
      | refine CV.ret ?_
      | refine CV.scope ?_
      | refine CV.draw callees ?_
      | refine CH.cons rfl ?_
      | refine CH.nil ?_
      | refine CO.consG rfl ?_
      | refine CH.consG rfl ?_
      | refine ⟨(rfl : plain _ = true), ?_⟩
      | refine ⟨(rfl : nilOk _ = some _), ?_⟩
      | refine ⟨_, ints_len (by assumption), ?_⟩
      | refine ⟨_, ints_addr (by assumption) (by omega) (by omega), ?_⟩
      | refine ⟨_, ints_load (by assumption) (by omega) (by omega), ?_⟩
      | refine ⟨(⟨by omega, by omega⟩ : inI64 _), ?_⟩
      | refine ⟨_, fun tm ha => step1_max rfl (ev_tmp ha rfl) (ev_tmp ha rfl), ?_⟩
      | refine ⟨_, fun tm ha => step1_min rfl (ev_tmp ha rfl) (ev_tmp ha rfl), ?_⟩
      | (refine (behind_spec n hB (by omega) (by omega) (by omega)).mono ?_; rintro r H' ⟨rfl, rfl⟩)
      | (refine ⟨fun _ => ?_, fun _ => ?_⟩ <;> first | (exfalso; omega) | skip)
      | fail
    all_goals exact ⟨rfl, by rw [behM], rfl⟩

/-- The rank, from a place on. -/
def rkF : List Int → Int → Int
  | [], _ => 0
  | x :: r, b => x * behM r.length b + rkF r (max b (x + 1))
theorem mul_bound {x y : Int} (h0 : 0 ≤ x) (h1 : x ≤ 8) (h2 : 1 ≤ y) (h3 : y ≤ 21147) : 0 ≤ x * y ∧ x * y ≤ 8 * 21147 := ⟨Int.mul_nonneg h0 (by omega), Int.mul_le_mul h1 h3 (by omega) (by decide)⟩
def rankR (xs : List Int) : Int × Int := if check xs = 0 then (rkF xs 0, 0) else (0, check xs)
theorem from_step {x b : Int} {r : List Int} (h : checkFrom (x :: r) b = 0) : 0 ≤ x ∧ x ≤ 8 ∧ x ≤ b ∧ checkFrom r (max b (x + 1)) = 0 := by
  rw [checkFrom] at h
  split at h
  · cases h
  split at h
  · cases h
  exact ⟨by omega, by omega, by omega, h⟩

set_option maxRecDepth 100000 in
theorem rank_spec {B : Nat} {v : Value} {H : Heap} {xs : List Int} (hn : B ≤ H.n) (hb : Base H) (hv : Ints H v xs) :
    CallB Tryd.prog B 35 [v] H (fun r H' => r = pairV (rankR xs) ∧ Keep H H') := by
  refine CV.enter callees false rfl Tryd.func35 rfl ok35 (Nat.le_of_ble_eq_true rfl) hn ?_
  repeat' first
    | refine CO.cons rfl ?_
    | refine CO.nil ?_
    | refine CV.seq ?_
    | refine CV.region callees ?_
    | refine CV.cond ?_
    | refine CV.block ?_
    | refine CV.skip ?_
    | refine CV.exit ?_
    | refine CV.ret ?_
    | refine CV.scope ?_
    | refine CV.draw callees ?_
    | refine CH.cons rfl ?_
    | refine CH.nil ?_
    | refine CO.consG rfl ?_
    | refine CH.consG rfl ?_
    | refine ⟨(rfl : plain _ = true), ?_⟩
    | refine ⟨(rfl : nilOk _ = some _), ?_⟩
    | refine ⟨_, ints_len (by assumption), ?_⟩
    | refine ⟨_, ints_addr (by assumption) (by omega) (by omega), ?_⟩
    | refine ⟨_, ints_load (by assumption) (by omega) (by omega), ?_⟩
    | refine ⟨(⟨by omega, by omega⟩ : inI64 _), ?_⟩
    | refine ⟨_, fun tm ha => step1_max rfl (ev_tmp ha rfl) (ev_tmp ha rfl), ?_⟩
    | refine ⟨_, fun tm ha => step1_min rfl (ev_tmp ha rfl) (ev_tmp ha rfl), ?_⟩
    | (refine ⟨fun _ => ?_, fun _ => ?_⟩ <;> first | (exfalso; omega) | skip)
    | fail
  refine (check_spec hn hv).mono ?_
  rintro r H1 ⟨rfl, rfl⟩
  repeat' first
    | refine CO.cons rfl ?_
    | refine CO.nil ?_
    | refine CV.seq ?_
    | refine CV.region callees ?_
    | refine CV.cond ?_
    | refine CV.block ?_
    | refine CV.skip ?_
    | refine CV.exit ?_
    | refine CV.ret ?_
    | refine CV.scope ?_
    | refine CV.draw callees ?_
    | refine CH.cons rfl ?_
    | refine CH.nil ?_
    | refine CO.consG rfl ?_
    | refine CH.consG rfl ?_
    | refine ⟨(rfl : plain _ = true), ?_⟩
    | refine ⟨(rfl : nilOk _ = some _), ?_⟩
    | refine ⟨_, ints_len (by assumption), ?_⟩
    | refine ⟨_, ints_addr (by assumption) (by omega) (by omega), ?_⟩
    | refine ⟨_, ints_load (by assumption) (by omega) (by omega), ?_⟩
    | refine ⟨(⟨by omega, by omega⟩ : inI64 _), ?_⟩
    | refine ⟨_, fun tm ha => step1_max rfl (ev_tmp ha rfl) (ev_tmp ha rfl), ?_⟩
    | refine ⟨_, fun tm ha => step1_min rfl (ev_tmp ha rfl) (ev_tmp ha rfl), ?_⟩
    | (refine ⟨fun _ => ?_, fun _ => ?_⟩ <;> first | (exfalso; omega) | skip)
    | fail
  · exact ⟨rfl, by rw [rankR, if_neg (by assumption)]; rfl, Keep.refl _⟩
  have h0 : check xs = 0 := Classical.not_not.1 (by assumption)
  have hlx := check_from h0
  have hg : (H1.new (.cells (List.replicate 100 (VI 0)) 79 1)).get H1.n = some (.cells (List.replicate 100 (VI 0)) 79 1) := Heap.get_new_eq _ _
  have k1 : Keep H1 ((H1.new (.cells (List.replicate 100 (VI 0)) 79 1)).set H1.n (.cells (endT.map VI) 79 1)) := (Keep.new _ _).set _ (Nat.le_refl _)
  have hg2 : ((H1.new (.cells (List.replicate 100 (VI 0)) 79 1)).set H1.n (.cells (endT.map VI) 79 1)).get H1.n = some (.cells (endT.map VI) 79 1) := Heap.get_set_eq _ _ _
  have hv2 : Ints _ v xs := Row.keep hv k1
  generalize hH2 : (H1.new (.cells (List.replicate 100 (VI 0)) 79 1)).set H1.n (.cells (endT.map VI) 79 1) = H2 at k1 hg2 hv2
  repeat' first
    | refine CO.cons rfl ?_
    | refine CO.nil ?_
    | refine CV.seq ?_
    | refine CV.region callees ?_
    | refine CV.cond ?_
    | refine CV.block ?_
    | refine CV.skip ?_
    | refine CV.exit ?_
    | refine CV.ret ?_
    | refine CV.scope ?_
    | refine CV.draw callees ?_
    | refine CH.cons rfl ?_
    | refine CH.nil ?_
    | refine CO.consG rfl ?_
    | refine CH.consG rfl ?_
    | refine ⟨(rfl : plain _ = true), ?_⟩
    | refine ⟨(rfl : nilOk _ = some _), ?_⟩
    | refine ⟨_, ints_len (by assumption), ?_⟩
    | refine ⟨_, ints_addr (by assumption) (by omega) (by omega), ?_⟩
    | refine ⟨_, ints_load (by assumption) (by omega) (by omega), ?_⟩
    | refine ⟨(⟨by omega, by omega⟩ : inI64 _), ?_⟩
    | refine ⟨_, fun tm ha => step1_max rfl (ev_tmp ha rfl) (ev_tmp ha rfl), ?_⟩
    | refine ⟨_, fun tm ha => step1_min rfl (ev_tmp ha rfl) (ev_tmp ha rfl), ?_⟩
    | refine CallB.known rfl hb hn ?_
    | refine ⟨_, _, alloc79, ?_⟩
    | refine ⟨_, _, store79 endT_len hg (by simp), hn, ?_⟩
    | (refine ⟨fun _ => ?_, fun _ => ?_⟩ <;> first | (exfalso; omega) | skip)
    | fail
  rw [hH2]
  repeat' first
    | refine CO.cons rfl ?_
    | refine CO.nil ?_
    | refine CV.seq ?_
    | refine CV.region callees ?_
    | refine CV.cond ?_
    | refine CV.block ?_
    | refine CV.skip ?_
    | refine CV.exit ?_
    | refine CV.ret ?_
    | refine CV.scope ?_
    | refine CV.draw callees ?_
    | refine CH.cons rfl ?_
    | refine CH.nil ?_
    | refine CO.consG rfl ?_
    | refine CH.consG rfl ?_
    | refine ⟨(rfl : plain _ = true), ?_⟩
    | refine ⟨(rfl : nilOk _ = some _), ?_⟩
    | refine ⟨_, ints_len (by assumption), ?_⟩
    | refine ⟨_, ints_addr (by assumption) (by omega) (by omega), ?_⟩
    | refine ⟨_, ints_load (by assumption) (by omega) (by omega), ?_⟩
    | refine ⟨(⟨by omega, by omega⟩ : inI64 _), ?_⟩
    | refine ⟨_, fun tm ha => step1_max rfl (ev_tmp ha rfl) (ev_tmp ha rfl), ?_⟩
    | refine ⟨_, fun tm ha => step1_min rfl (ev_tmp ha rfl) (ev_tmp ha rfl), ?_⟩
    | (refine ⟨fun _ => ?_, fun _ => ?_⟩ <;> first | (exfalso; omega) | skip)
    | fail
  refine CV.loopc ?_
  refine WCv.rounds callees false (α := Int × Int × Int) (fun (i, s, m) => [(0, v), (5, .pointer (some ⟨H1.n, 0, none⟩)), (6, .int .i64 s), (7, .int .i64 m), (16, v), (17, .int .i64 xs.length), (18, .int .i64 i)]) (fun (i, s, m) Hz => Hz = H2 ∧ 0 ≤ i ∧ i ≤ xs.length ∧ 0 ≤ m ∧ m ≤ i ∧ 0 ≤ s ∧ s ≤ i * 200000 ∧ checkFrom (xs.drop i.toNat) m = 0 ∧ s + rkF (xs.drop i.toNat) m = rkF xs 0) (fun (i, s, m) => xs.length - i.toNat) (0, 0, 0) (by repeat' first | exact trivial | refine ⟨rfl, ?_⟩) ?_ ?_
  · exact ⟨rfl, by omega, by omega, by omega, by omega, by omega, by omega, hlx.1, by simp⟩
  rintro ⟨i, s, m⟩ Hx ⟨rfl, hi0, hi1, hm0, hm1, hs0, hs1, hc, hr⟩ _
  by_cases hi : i < xs.length
  · have hdl : (xs.drop (i.toNat + 1)).length = ((xs.length : Int) - 1 - i).toNat := by simp; omega
    rw [drop_cons (xs := xs) (n := i.toNat) (by omega)] at hc hr
    obtain ⟨hx0, hx8, hxm, hc'⟩ := from_step hc
    have be := beh_at (n := ((xs.length : Int) - 1 - i).toNat) (b := m) hm0 (by omega)
    rw [rkF, hdl] at hr
    rw [← be.2.2] at hr
    have mb := mul_bound (x := xs[i.toNat]!) (y := endT[((xs.length : Int) - 1 - i).toNat * 10 + m.toNat]!) hx0 hx8 (by omega) (by omega)
    repeat' first
      | refine CO.cons rfl ?_
      | refine CO.nil ?_
      | refine CV.seq ?_
      | refine CV.region callees ?_
      | refine CV.cond ?_
      | refine CV.block ?_
      | refine CV.skip ?_
      | refine CV.exit ?_
      | refine CV.ret ?_
      | refine CV.scope ?_
      | refine CV.draw callees ?_
      | refine CH.cons rfl ?_
      | refine CH.nil ?_
      | refine CO.consG rfl ?_
      | refine CH.consG rfl ?_
      | refine ⟨(rfl : plain _ = true), ?_⟩
      | refine ⟨(rfl : nilOk _ = some _), ?_⟩
      | refine ⟨_, ints_len (by assumption), ?_⟩
      | refine ⟨_, ints_addr (by assumption) (by omega) (by omega), ?_⟩
      | refine ⟨_, ints_load (by assumption) (by omega) (by omega), ?_⟩
      | refine ⟨(⟨by omega, by omega⟩ : inI64 _), ?_⟩
      | refine ⟨_, fun tm ha => step1_max rfl (ev_tmp ha rfl) (ev_tmp ha rfl), ?_⟩
      | refine ⟨_, fun tm ha => step1_min rfl (ev_tmp ha rfl) (ev_tmp ha rfl), ?_⟩
      | refine ⟨_, tab_addr (by omega) (by omega), ?_⟩
      | refine ⟨_, row_addr (by omega) (by omega), ?_⟩
      | refine ⟨_, tab_load endT_len hg2 (by omega) (by omega) (by omega) (by omega), ?_⟩
      | (refine ⟨fun _ => ?_, fun _ => ?_⟩ <;> first | (exfalso; omega) | skip)
      | fail
    refine ⟨(i + 1, s + xs[i.toNat]! * endT[((xs.length : Int) - 1 - i).toNat * 10 + m.toNat]!, max m (xs[i.toNat]! + 1)), (by repeat' first | exact trivial | refine ⟨rfl, ?_⟩), (by (try dsimp only); omega), ?_⟩
    have e : (i + 1).toNat = i.toNat + 1 := by omega
    refine ⟨rfl, by omega, by omega, by omega, by omega, by omega, by omega, by rw [e]; exact hc', by rw [e]; omega⟩
  · rw [show xs.drop i.toNat = [] by simp; omega, rkF] at hr
    repeat' first
      | refine CO.cons rfl ?_
      | refine CO.nil ?_
      | refine CV.seq ?_
      | refine CV.region callees ?_
      | refine CV.cond ?_
      | refine CV.block ?_
      | refine CV.skip ?_
      | refine CV.exit ?_
      | refine CV.ret ?_
      | refine CV.scope ?_
      | refine CV.draw callees ?_
      | refine CH.cons rfl ?_
      | refine CH.nil ?_
      | refine CO.consG rfl ?_
      | refine CH.consG rfl ?_
      | refine ⟨(rfl : plain _ = true), ?_⟩
      | refine ⟨(rfl : nilOk _ = some _), ?_⟩
      | refine ⟨_, ints_len (by assumption), ?_⟩
      | refine ⟨_, ints_addr (by assumption) (by omega) (by omega), ?_⟩
      | refine ⟨_, ints_load (by assumption) (by omega) (by omega), ?_⟩
      | refine ⟨(⟨by omega, by omega⟩ : inI64 _), ?_⟩
      | refine ⟨_, fun tm ha => step1_max rfl (ev_tmp ha rfl) (ev_tmp ha rfl), ?_⟩
      | refine ⟨_, fun tm ha => step1_min rfl (ev_tmp ha rfl) (ev_tmp ha rfl), ?_⟩
      | (refine ⟨fun _ => ?_, fun _ => ?_⟩ <;> first | (exfalso; omega) | skip)
      | fail
    exact ⟨rfl, by rw [rankR, if_pos h0, ← hr]; simp [pairV], k1⟩
end Go.Proofs.YthjieekbbhhjgaaDoor
