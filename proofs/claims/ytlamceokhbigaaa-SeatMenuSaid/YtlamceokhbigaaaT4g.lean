
/- Guests who sit in a row, and what rules ask of it. -/
import Derived.Test.YtlamceokhbigaaaT3g
set_option linter.unusedVariables false
set_option linter.unusedSimpArgs false
namespace Go.Proofs.Ytlamceokhbigaaa
open Go.AI
abbrev Rwl (n : Int) (S R : List Int) : List Value := VI n :: (S.map VI ++ R.map VI)
abbrev Rwv (n : Int) (S R : List Int) : Value := .agg (Rwl n S R).toArray
def z7 : List Int := [0, 0, 0, 0, 0, 0, 0]
theorem ag147 : isAggB Try.prog 147 = some true := by kernel_rfl
theorem sz147 : sizeB Try.prog 147 = some 15 := by kernel_rfl
theorem un110 : Try.prog.underlying 110 = some (.array 7 3) := by kernel_rfl
theorem foW0 : fieldOff Try.prog 147 0 = some (0, 1) := by kernel_rfl
theorem foW1 : fieldOff Try.prog 147 1 = some (1, 7) := by kernel_rfl
theorem foW2 : fieldOff Try.prog 147 2 = some (8, 7) := by kernel_rfl
theorem zero147 : zeroCells Try.prog 147 = some (Rwl 0 z7 z7) := by kernel_rfl
theorem al147 {H : Heap} : sAlloc Try.prog H 147 = some (.pointer (some ⟨H.n, 0, none⟩), H.new (.cells (Rwl 0 z7 z7) 147 1), H.n) := alloc_of zero147
theorem bu147 {x : Int} : abuild Try.prog 147 [(0, VI x)] = some (Rwv x z7 z7) := by kernel_rfl
theorem boxW {H : Heap} {n : Int} {S R : List Int} {e : TypeId} : anew H (Value.cells (Rwv n S R)).toList e 1 = H.new (.cells (Rwl n S R) e 1) := rfl
theorem rw_len {n : Int} {S R : List Int} (h1 : S.length = 7) (h2 : R.length = 7) : (Rwl n S R).length = 15 := by simp [h1, h2]
theorem all_one (l : List Int) : (l.map VI).all oneC = true := by
  induction l with
  | nil => rfl
  | cons x l ih => simp only [List.map_cons, List.all_cons, ih]; rfl
theorem rw_one {n : Int} {S R : List Int} : (Rwl n S R).all oneC = true := by
  rw [List.all_cons, List.all_append, all_one, all_one]; rfl
theorem ld147 {H : Heap} {b k : Nat} {n : Int} {S R : List Int} {e : TypeId} (h1 : S.length = 7) (h2 : R.length = 7) (hg : H.get b = some (.cells (Rwl n S R) e k)) : aload Try.prog 147 H (.pointer (some ⟨b, 0, none⟩)) = some (Rwv n S R) := by
  rw [agg_load ag147 sz147 hg (by rw [rw_len h1 h2]; exact Nat.le_refl _), List.drop_zero, List.take_of_length_le (by rw [rw_len h1 h2]; exact Nat.le_refl _)]
theorem st147 {H : Heap} {b k : Nat} {n n' : Int} {S R S' R' : List Int} {e : TypeId} (h1 : S.length = 7) (h2 : R.length = 7) (h3 : S'.length = 7) (h4 : R'.length = 7) (hg : H.get b = some (.cells (Rwl n S R) e (k + 1))) : astore Try.prog 147 H (Rwv n' S' R') (.pointer (some ⟨b, 0, none⟩)) = some (H.set b (.cells (Rwl n' S' R') e (k + 1)), b) :=
  store_allW (vs := Rwl n' S' R') hg (by rw [rw_len h1 h2, rw_len h3 h4]) (by rw [rw_len h3 h4]; exact sz147) rw_one
theorem rw_seat {n : Int} {S R : List Int} {x : Nat} (h1 : S.length = 7) (hx : x < 7) : (Rwl n S R)[0 + 1 + x * 1]? = some (VI S[x]!) := by
  rw [show 0 + 1 + x * 1 = x + 1 by omega, List.getElem?_cons_succ, List.getElem?_append_left (by simp [h1]; exact hx), List.getElem?_map, List.getElem?_eq_getElem (by omega), getElem!_pos S x (by omega)]
  rfl
theorem rw_rank {n : Int} {S R : List Int} {x : Nat} (h1 : S.length = 7) (h2 : R.length = 7) (hx : x < 7) : (Rwl n S R)[8 + x]? = some (VI R[x]!) := by
  rw [show 8 + x = (7 + x) + 1 by omega, List.getElem?_cons_succ, List.getElem?_append_right (by simp [h1]), List.getElem?_map, List.length_map, h1, show 7 + x - 7 = x by omega, List.getElem?_eq_getElem (by omega), getElem!_pos R x (by omega)]
  rfl
theorem rw_setS {n : Int} {S R : List Int} {x : Nat} {y : Int} (h1 : S.length = 7) (hx : x < 7) : (Rwl n S R).set (0 + 1 + x * 1) (VI y) = Rwl n (S.set x y) R := by
  rw [show 0 + 1 + x * 1 = x + 1 by omega, List.set_cons_succ, List.set_append_left _ _ (by simp [h1]; exact hx), ← List.map_set]
theorem rw_setR {n : Int} {S R : List Int} {x : Nat} {y : Int} (h1 : S.length = 7) : (Rwl n S R).set (0 + 8 + x * 1) (VI y) = Rwl n S (R.set x y) := by
  rw [show 0 + 8 + x * 1 = (7 + x) + 1 by omega, List.set_cons_succ, List.set_append_right _ _ (by simp [h1]), List.length_map, h1, show 7 + x - 7 = x by omega, ← List.map_set]
theorem arr7 {b i : Nat} {k : Int} {kd : IntKind} (h0 : 0 ≤ k) (h1 : k < 7) : aindexAddr Try.prog 110 (.pointer (some ⟨b, i, none⟩)) (.int kd k) = some (.pointer (some ⟨b, i + k.toNat * 1, none⟩)) := array_addrW un110 sz3 h0 h1
/-- In which seat each guest sits. -/
def seatL (o : List Int) : List Int := (List.range 7).map fun (x : Nat) => if (x : Int) ∈ o then (o.idxOf (x : Int) : Int) else 0
/-- The ranks in the seats. -/
def rankL (gs : List Gu) (o : List Int) : List Int := (List.range 7).map fun j => if j < o.length then gs[o[j]!.toNat]!.ra else 0
theorem seatL_len {o : List Int} : (seatL o).length = 7 := by simp [seatL]
theorem rankL_len {gs : List Gu} {o : List Int} : (rankL gs o).length = 7 := by simp [rankL]
theorem seatL_at {o : List Int} {x : Nat} (h : x < 7) : (seatL o)[x]! = if (x : Int) ∈ o then (o.idxOf (x : Int) : Int) else 0 := by
  rw [getElem!_pos _ x (by rw [seatL_len]; exact h)]
  simp [seatL]
theorem rankL_at {gs : List Gu} {o : List Int} {x : Nat} (h : x < 7) : (rankL gs o)[x]! = if x < o.length then gs[o[x]!.toNat]!.ra else 0 := by
  rw [getElem!_pos _ x (by rw [rankL_len]; exact h)]
  simp [rankL]
theorem seatL_snoc {o : List Int} {x : Int} (h0 : 0 ≤ x) (hx : x < 7) (hn : x ∉ o) : seatL (o ++ [x]) = (seatL o).set x.toNat (o.length : Int) := by
  apply List.ext_getElem (by rw [List.length_set, seatL_len, seatL_len])
  intro j h1 h2
  rw [seatL_len] at h1
  rw [List.getElem_set]
  have a := seatL_at (o := o ++ [x]) h1
  have b := seatL_at (o := o) h1
  rw [getElem!_pos _ j (by rw [seatL_len]; exact h1)] at a b
  rw [a, b]
  by_cases hj : x.toNat = j
  · have hjx : (j : Int) = x := by omega
    rw [if_pos hj, hjx, if_pos (by simp), List.idxOf_append, if_neg hn, List.idxOf_cons_self]
    omega
  · rw [if_neg hj]
    have hne : (j : Int) ≠ x := by omega
    by_cases hm : (j : Int) ∈ o
    · rw [if_pos (by simp [hm]), if_pos hm, List.idxOf_append, if_pos hm]
    · rw [if_neg (by simp [hm, hne]), if_neg hm]
theorem rankL_snoc {gs : List Gu} {o : List Int} {x : Int} (hl : o.length < 7) : rankL gs (o ++ [x]) = (rankL gs o).set o.length gs[x.toNat]!.ra := by
  apply List.ext_getElem (by rw [List.length_set, rankL_len, rankL_len])
  intro j h1 h2
  rw [rankL_len] at h1
  rw [List.getElem_set]
  have a := rankL_at (gs := gs) (o := o ++ [x]) h1
  have b := rankL_at (gs := gs) (o := o) h1
  rw [getElem!_pos _ j (by rw [rankL_len]; exact h1)] at a b
  rw [a, b, List.length_append, List.length_singleton]
  by_cases hj : o.length = j
  · rw [if_pos hj, if_pos (by omega), getElem!_pos _ j (by simp; omega), List.getElem_append_right (by omega)]
    simp
  · rw [if_neg hj]
    by_cases hm : j < o.length
    · rw [if_pos (by omega), if_pos hm, getElem!_pos _ j (by simp; omega), List.getElem_append_left hm, getElem!_pos _ j hm]
    · rw [if_neg (by omega), if_neg hm]
/-- Some of so many guests, each once. -/
structure Pre (n : Nat) (o : List Int) : Prop where
  nd : o.Nodup
  r : ∀ x ∈ o, 0 ≤ x ∧ x < n
  l : o.length ≤ n
set_option maxHeartbeats 8000000 in
set_option maxRecDepth 100000 in
theorem seated_spec {B : Nat} {H : Heap} {gv ov : Value} {gs : List Gu} {o : List Int} (hB : B ≤ H.n) (hg : RowS 5 H gv (gs.map Gul)) (ho : Ints H ov o) (h7 : gs.length ≤ 7) (hp : Pre gs.length o) (hra : ∀ i, i < gs.length → 0 ≤ gs[i]!.ra ∧ gs[i]!.ra ≤ 9) :
    CallB Try.prog B 119 [gv, ov] H (fun r H' => r = Rwv gs.length (seatL o) (rankL gs o) ∧ Keep H H') := by
  have hol := hp.l
  refine CV.enter callees false rfl Try.func119 rfl (by kernel_rfl) (Nat.le_of_ble_eq_true rfl) hB ?_
  repeat' first
    | refine CO.cons rfl ?_
    | refine CO.nil ?_
    | refine CV.seq ?_
    | refine CV.region callees ?_
    | (refine ⟨_, _, al147, ?_⟩)
    | fail
  generalize hs0 : Heap.new H _ = H0
  have hg0 := new_get hs0
  have k0 := new_keep hs0
  have n0 := new_n hs0
  obtain ⟨b0, hbn0⟩ : ∃ b, Heap.n H = b := ⟨_, rfl⟩
  rw [hbn0] at hg0 n0 ⊢
  have hg0' := hg.keep k0
  have ho0 : Ints H0 ov o := ho.keep k0
  repeat' first
    | refine CO.cons rfl ?_
    | (refine ⟨_, gs_len hg0', ?_⟩)
    | (refine ⟨_, bu147, ?_⟩)
    | (refine ⟨_, _, al147, ?_⟩)
    | fail
  generalize hs1 : Heap.new H0 _ = H1
  have hg1 := new_get hs1
  have k1 := new_keep hs1
  have n1 := new_n hs1
  obtain ⟨b1, hbn1⟩ : ∃ b, Heap.n H0 = b := ⟨_, rfl⟩
  rw [hbn1] at hg1 n1 ⊢
  have hg01 := (k1.2 b0 (by omega)).trans hg0
  repeat' first
    | fail
  refine ⟨_, _, st147 rfl rfl rfl rfl hg1, by omega, ?_⟩
  generalize hs2 : Heap.set H1 b1 _ = H2
  have hg2 : H2.get b1 = some (.cells (Rwl gs.length z7 z7) 147 1) := set_get hs2
  have n2 := set_n hs2
  have o2 := set_old hs2
  have k2 : Keep H0 H2 := keep_put k1 (by omega) o2 n2
  have hg02 := (o2 b0 (by omega)).trans hg01
  have ho2 : Ints H2 ov o := ho0.keep k2
  have l2 := k2.1
  repeat' first
    | refine CO.cons rfl ?_
    | refine CO.nil ?_
    | refine CV.seq ?_
    | refine CV.region callees ?_
    | refine CV.block ?_
    | refine ⟨_, ints_len (by assumption), ?_⟩
    | fail
  refine CV.loopc ?_
  refine WCv.rounds callees false (α := Nat) (fun i => [(0, gv), (1, ov), (4, .pointer (some ⟨b0, 0, none⟩)), (5, .pointer (some ⟨b1, 0, none⟩)), (11, ov), (12, VI o.length), (13, VI i)]) (fun i Hz => i ≤ o.length ∧ Hz.get b1 = some (.cells (Rwl gs.length (seatL (o.take i)) (rankL gs (o.take i))) 147 1) ∧ Hz.get b0 = some (.cells (Rwl 0 z7 z7) 147 1) ∧ Keep H Hz ∧ b1 < Hz.n) (fun i => o.length - i) (0) (by repeat' first | exact trivial | refine ⟨rfl, ?_⟩ | refine ⟨slot_int (by (try simp only [Int.toNat_natCast]); omega), ?_⟩) ?_ ?_
  · exact ⟨by omega, hg2, hg02, k0.trans k2, by omega⟩
  clear hg2 hg02 ho2
  rintro i Hx ⟨hi, hgx, hzx, kx, lx⟩ hBx
  have hox : Ints Hx ov o := ho.keep kx
  by_cases hi2 : i < o.length
  · have hmem : o[i]! ∈ o := by rw [getElem!_pos o i hi2]; exact List.getElem_mem _
    obtain ⟨x, hx⟩ : ∃ x, o[i]! = x := ⟨_, rfl⟩
    have hxi : o[(i : Int).toNat]! = x := hx
    rw [hx] at hmem
    obtain ⟨x0, x1⟩ := hp.r x hmem
    have htk : o.take (i + 1) = o.take i ++ [x] := by rw [List.take_add_one, List.getElem?_eq_getElem hi2, ← hx, getElem!_pos o i hi2]; rfl
    have hni : x ∉ o.take i := by
      intro hm
      have hnd := hp.nd
      rw [← List.take_append_drop (i + 1) o, List.nodup_append] at hnd
      rw [htk, List.nodup_append] at hnd
      exact hnd.1.2.2 x hm x (by simp) rfl
    have htl : (o.take i).length = i := by rw [List.length_take]; omega
    have hgx' := hg.keep kx
    have hxg : x.toNat < gs.length := by omega
    have hr := hra x.toNat hxg
    obtain ⟨bg, og, cg, hgv, hbg⟩ : ∃ bg og cg, gv = .slice (some ⟨bg, og, none⟩) gs.length cg ∧ bg < H.n := by
      rcases hg.2 with ⟨_, h⟩ | ⟨_, h⟩ | ⟨b, o', c, cs, e', k, h, h2, _⟩
      · simp at h; simp [h] at hxg
      · simp at h; simp [h] at hxg
      · exact ⟨b, o', c, by rw [h, List.length_map], h2⟩
    subst hgv
    repeat' first
      | refine CO.cons rfl ?_
      | refine CO.nil ?_
      | refine CV.seq ?_
      | refine CV.region callees ?_
      | refine CV.cond ?_
      | refine CV.block ?_
      | refine CV.skip ?_
      | refine ⟨_, ints_addr (by assumption) (by omega) (by omega), ?_⟩
      | refine ⟨_, ints_load (by assumption) (by omega) (by omega), ?_⟩
      | (refine ⟨fun _ => ?_, fun _ => ?_⟩ <;> first | (exfalso; omega) | skip)
      | fail
    refine CV.wideR callees (by decide +kernel) [(0, []), (1, []), (2, []), (3, []), (4, []), (5, []), (6, []), (7, []), (8, []), (9, []), (11, []), (10, [7]), (12, []), (13, [])] (by kernel_rfl) ?_
    rw [hxi]
    repeat' first
      | refine CR.cons ?_
      | (refine ⟨_, gs_addr hgx' (by omega) (by omega), ?_⟩)
      | (refine ⟨_, gs_f hgx' foG1 (by decide) hxg, ?_⟩)
      | (refine ⟨_, gs_ra hgx' hxg, ?_⟩)
      | (refine ⟨_, fS foW1 (by decide), ?_⟩)
      | (refine ⟨_, fS foW2 (by decide), ?_⟩)
      | (refine ⟨_, arr7 (by omega) (by omega), ?_⟩)
      | (refine ⟨(show bg ≠ b1 by omega), ?_⟩)
      | fail
    have hS : (seatL (o.take i)).set x.toNat (i : Int) = seatL (o.take (i + 1)) := by rw [htk, seatL_snoc x0 (by omega) hni, htl]
    have hR : (rankL gs (o.take i)).set (i : Int).toNat gs[x.toNat]!.ra = rankL gs (o.take (i + 1)) := by rw [htk, rankL_snoc (by omega), htl]; rfl
    refine ⟨_, _, store_row sz3 hgx (by rw [rw_len seatL_len rankL_len]; omega) rfl, by omega, ?_⟩
    rw [rw_setS seatL_len (by omega), hS]
    generalize hs3 : Heap.set Hx b1 _ = H3
    have hg3 : H3.get b1 = some (.cells (Rwl gs.length (seatL (o.take (i + 1))) (rankL gs (o.take i))) 147 1) := set_get hs3
    have n3 := set_n hs3
    have o3 := set_old hs3
    repeat' first
      | refine CR.cons ?_
      | (refine ⟨_, arr7 (by omega) (by omega), ?_⟩)
      | fail
    refine ⟨_, _, store_row sz3 hg3 (by rw [rw_len seatL_len rankL_len]; omega) rfl, by omega, ?_⟩
    rw [rw_setR seatL_len, hR]
    generalize hs4 : Heap.set H3 b1 _ = H4
    have hg4 : H4.get b1 = some (.cells (Rwl gs.length (seatL (o.take (i + 1))) (rankL gs (o.take (i + 1)))) 147 1) := set_get hs4
    have n4 := set_n hs4
    have o4 := set_old hs4
    repeat' first
      | refine CO.cons rfl ?_
      | refine CO.nil ?_
      | refine CV.region callees ?_
      | refine CR.nil ?_
      | refine ⟨(⟨by omega, by omega⟩ : inI64 _), ?_⟩
      | fail
    refine ⟨(i + 1), (by repeat' first | exact trivial | refine ⟨rfl, ?_⟩ | refine ⟨slot_int (by (try simp only [Int.toNat_natCast]); omega), ?_⟩), (by (try dsimp only); omega), ?_⟩
    exact ⟨by omega, hg4, (o4 b0 (by omega)).trans ((o3 b0 (by omega)).trans hzx), keep_put (keep_put kx (by omega) o3 n3) (by omega) o4 n4, by omega⟩
  obtain rfl : i = o.length := by omega
  rw [List.take_length] at hgx
  repeat' first
    | refine CO.cons rfl ?_
    | refine CO.nil ?_
    | refine CV.seq ?_
    | refine CV.region callees ?_
    | refine CV.cond ?_
    | refine CV.exit ?_
    | (refine ⟨_, ld147 seatL_len rankL_len hgx, ?_⟩)
    | (refine ⟨fun _ => ?_, fun _ => ?_⟩ <;> first | (exfalso; omega) | skip)
    | fail
  refine ⟨_, _, st147 rfl rfl seatL_len rankL_len hzx, by omega, ?_⟩
  generalize hs5 : Heap.set Hx b0 _ = H5
  have hg5 : H5.get b0 = some (.cells (Rwl gs.length (seatL o) (rankL gs o)) 147 1) := set_get hs5
  have n5 := set_n hs5
  have o5 := set_old hs5
  repeat' first
    | refine CO.nil ?_
    | refine CV.ret ?_
    | fail
  exact ⟨_, ld147 seatL_len rankL_len hg5, rfl, rfl, keep_put kx (by omega) o5 n5⟩
end Go.Proofs.Ytlamceokhbigaaa

