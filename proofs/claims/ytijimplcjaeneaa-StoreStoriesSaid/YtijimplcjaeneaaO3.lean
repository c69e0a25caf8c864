/- Several texts in one. -/
import Derived.Test.YtijimplcjaeneaaO2
set_option linter.unusedVariables false
set_option linter.unusedSimpArgs false

/- eventsOf. -/
namespace Go.Proofs.Ytijimplcjaeneaa
open Go.AI
theorem one_at {α : Type} [Inhabited α] {l : List α} {i : Nat} (h : i < l.length) : l.take (i + 1) = l.take i ++ [l[i]!] := by
  rw [List.take_add_one, List.getElem?_eq_getElem h, getElem!_pos l i h]; rfl
theorem ev_set {l : List Ev} {j : Nat} {x : Int} (hj : j < l.length) : (l.map Evl).flatten.set (j * 4 + 3) (VI x) = ((l.set j ⟨l[j]!.k, l[j]!.o, l[j]!.lo, x⟩).map Evl).flatten := by
  rw [flat_set evRows (ev_at hj) (by decide), List.map_set]
  rfl
set_option maxHeartbeats 16000000 in
set_option maxRecDepth 100000 in
theorem eventsOf_spec [Orc] {B : Nat} {H : Heap} {mk lo hh : Int} {sv ov : Value} {ls : List Lk} {o : List Int} (hB : B ≤ H.n) (hr : RowS 4 H sv (ls.map Lkl)) (hls : LsOk ls) (ho : Ints H ov o) (hon : o.length ≤ 7) (hok : ∀ k ∈ o, 0 ≤ k ∧ k < ls.length) (h0 : 0 ≤ lo) (h1 : lo ≤ 100000) (h2 : 0 ≤ hh) (h3 : hh ≤ 100000) :
    CallB Try.prog B 81 [Chv mk lo hh sv, ov] H (fun v H' => OwnE H' v (evsL mk lo hh ls o) H.n ∧ Keep H H') := by
  refine CV.enter callees false (Orc.hv rfl rfl) Try.func81 rfl (by kernel_rfl) (Nat.le_of_ble_eq_true rfl) hB ?_ (Orc.hw rfl rfl)
  repeat' first
    | refine CO.cons rfl ?_
    | refine CV.seq ?_
    | refine CV.region callees ?_
    | fail
  refine ⟨(by simp only [notTuple]), ?_⟩
  rw [boxCh hr.cells.1]
  generalize hs0 : Heap.new H _ = H0
  have hg0 := new_get hs0
  have k0 := new_keep hs0
  have n0 := new_n hs0
  obtain ⟨b0, hbn0⟩ : ∃ b, Heap.n H = b := ⟨_, rfl⟩
  rw [hbn0] at hg0 n0 ⊢
  have ho0 := ho.keep k0
  repeat' first
    | refine CO.cons rfl ?_
    | refine CO.nil ?_
    | refine CV.seq ?_
    | refine CV.region callees ?_
    | (refine ⟨_, fS foC0 (by decide), ?_⟩)
    | (refine ⟨_, fS foC1 (by decide), ?_⟩)
    | (refine ⟨_, cell_load ag3 hg0 rfl, ?_⟩)
    | (refine ⟨_, ldChS hg0, ?_⟩)
    | (refine ⟨_, buEv, ?_⟩)
    | (refine ⟨_, _, evOne, ?_⟩)
    | fail
  generalize hs1 : Heap.new H0 _ = H1
  have hg1 := new_get hs1
  have k1 := new_keep hs1
  have n1 := new_n hs1
  obtain ⟨b1, hbn1⟩ : ∃ b, Heap.n H0 = b := ⟨_, rfl⟩
  rw [hbn1] at hg1 n1 ⊢
  have hc1 := (k1.2 b0 (by omega)).trans hg0
  have ho1 := ho0.keep k1
  repeat' first
    | refine CO.cons rfl ?_
    | refine CO.nil ?_
    | refine CV.block ?_
    | refine ⟨_, ints_len (by assumption), ?_⟩
    | fail
  refine CV.loopc ?_
  refine WCv.rounds callees false (α := Nat × Nat) (fun (i, be) => [(2, .pointer (some ⟨b0, 0, none⟩)), (5, .slice (some ⟨be, 0, none⟩) (i + 1) 0), (18, ov), (19, VI o.length), (20, VI i)]) (fun (i, be) Hz => i ≤ o.length ∧ Hz.get b0 = some (.cells (Chl mk lo hh sv) 26 1) ∧ Hz.get be = some (.cells ((evs0 mk lo hh ls (o.take i)).map Evl).flatten 124 2) ∧ Keep H Hz ∧ H.n < be ∧ be < Hz.n) (fun (i, be) => o.length - i) (0, b1) (by repeat' first | exact trivial | refine ⟨rfl, ?_⟩ | refine ⟨slot_int (by (try simp only [Int.toNat_natCast]); omega), ?_⟩) ?_ ?_
  · exact ⟨by omega, hc1, hg1, k0.trans k1, by omega, by omega⟩
  clear hc1 ho1 ho0 hg0 hg1
  rintro ⟨i, be⟩ Hx ⟨hi, hcx, hgx, kx, lb, lx⟩ hBx
  have lbx := kx.1
  have hrx := hr.keep kx
  have hox : Ints Hx ov o := Row.keep ho kx
  have hEl : (evs0 mk lo hh ls (o.take i)).length = i + 1 := by rw [evs0_len, List.length_take]; omega
  by_cases hi2 : i < o.length
  · have hki : o[(i : Int).toNat]! = o[i]! := rfl
    have hkm : o[i]! ∈ o := by rw [getElem!_pos o i hi2]; exact List.getElem_mem _
    have hkb := hok _ hkm
    obtain ⟨k, hk⟩ : ∃ k, o[i]! = k := ⟨_, rfl⟩
    rw [hk] at hki hkb
    have hkn : k.toNat < ls.length := by omega
    have hbd := evs0_bd (mk := mk) (lo := lo) (hi := hh) hls (o := o.take i) (fun k hk' => hok k (List.mem_of_mem_take hk')) h0 h1 h2 h3 i (by omega)
    have hlo := hls.lo _ hkn
    have hhi := hls.hi _ hkn
    obtain ⟨x, hx⟩ : ∃ x, ls[k.toNat]! = x := ⟨_, rfl⟩
    repeat' first
      | refine CO.cons rfl ?_
      | refine CO.nil ?_
      | refine CV.seq ?_
      | refine CV.region callees ?_
      | refine CV.cond ?_
      | refine CV.block ?_
      | refine CV.skip ?_
      | refine ⟨_, ints_addr (by assumption) (by omega) (by omega), ?_⟩
      | refine ⟨_, ints_load (by assumption) (by omega) (by omega), ?_⟩
      | (rw [hki])
      | (refine ⟨_, fS foC2 (by decide), ?_⟩)
      | (refine ⟨_, cell_load agLs hcx rfl, ?_⟩)
      | (refine ⟨_, ls_addr hrx (by omega) (by omega), ?_⟩)
      | (refine ⟨_, ls_load hrx hkn, ?_⟩)
      | (refine ⟨_, _, alLk, ?_⟩)
      | (refine ⟨fun _ => ?_, fun _ => ?_⟩ <;> first | (exfalso; omega) | skip)
      | fail
    generalize hs4 : Heap.new Hx _ = H4
    have hg4 := new_get hs4
    have k4 := new_keep hs4
    have n4 := new_n hs4
    obtain ⟨b4, hbn4⟩ : ∃ b, Heap.n Hx = b := ⟨_, rfl⟩
    rw [hbn4] at hg4 n4 ⊢
    rw [hx] at hlo hhi
    repeat' first
      | fail
    refine ⟨_, _, stLk hg4, by omega, ?_⟩
    rw [hx]
    generalize hs5 : Heap.set H4 b4 _ = H5
    have hg5 : H5.get b4 = some (.cells (Lkl x) 28 1) := set_get hs5
    have n5 := set_n hs5
    have o5 := set_old hs5
    have k5 : Keep Hx H5 := keep_put k4 (by omega) o5 n5
    have hc5 := (k5.2 b0 (by omega)).trans hcx
    have hg5' := (k5.2 be (by omega)).trans hgx
    have hix : (((i + 1 : Nat) : Int) - 1).toNat = i := by omega
    have hcell : ((evs0 mk lo hh ls (o.take i)).map Evl).flatten[(((i + 1 : Nat) : Int) - 1).toNat * 4 + 2 + 0]? = some (VI (evs0 mk lo hh ls (o.take i))[i]!.lo) := by
      rw [hix]; exact ev_cell (by omega) rfl
    obtain ⟨E, hE⟩ : ∃ E, evs0 mk lo hh ls (o.take i) = E := ⟨_, rfl⟩
    have hsn : evs0 mk lo hh ls (o.take (i + 1)) = E ++ [⟨k, x.t, max x.lo (E[i]!.lo + 1), x.hi⟩] := by
      rw [one_at hi2, hk, ← hE]
      have := upL_snoc (ls := ls) (k := k) (t := o.take i) (a := ⟨-1, mk, lo, hh⟩)
      rw [List.length_take, Nat.min_eq_left hi, hx] at this
      exact this
    rw [hE] at hEl hbd hg5' hcell
    have hOwn : OwnE H5 (.slice (some ⟨be, 0, none⟩) (i + 1) 0) E H.n := ⟨evRows, .inr ⟨be, by rw [List.length_map, hEl], by omega, by omega, hg5'⟩⟩
    repeat' first
      | refine CO.cons rfl ?_
      | refine CO.nil ?_
      | refine CV.seq ?_
      | refine CV.region callees ?_
      | refine CV.draw callees (by decide +kernel) ?_
      | refine CH.cons rfl ?_
      | refine CH.nil ?_
      | refine ⟨(⟨by omega, by omega⟩ : inI64 _), ?_⟩
      | refine ⟨_, fun tm ha => step1_max rfl (ev_tmp ha rfl) (ev_tmp ha rfl), ?_⟩
      | (refine ⟨_, fS foL2 (by decide), ?_⟩)
      | (refine ⟨_, fS foS0 (by decide), ?_⟩)
      | (refine ⟨_, cell_load ag3 hg5 rfl, ?_⟩)
      | (refine ⟨_, ev_sl, ?_⟩)
      | (refine ⟨_, ev_adr (by omega) (by omega), ?_⟩)
      | (refine ⟨_, cell_load ag3 hg5' hcell, ?_⟩)
      | (refine ⟨_, fS foL1 (by decide), ?_⟩)
      | (refine ⟨_, buSp, ?_⟩)
      | (refine ⟨_, buEv, ?_⟩)
      | (refine ⟨_, _, evOne, ?_⟩)
      | fail
    refine evPush hOwn (by omega) hB (by omega) ?_
    intro r H6 ho6 kb6 hf6
    have l6 := kb6.le
    rw [← hsn] at ho6
    obtain ⟨be', rfl, hb1', hb2', hb3'⟩ := evCells ho6 (by rw [evs0_len]; omega)
    have hlen2 : (evs0 mk lo hh ls (o.take (i + 1))).length = i + 1 + 1 := by rw [evs0_len, List.length_take]; omega
    have hge := hf6 be' rfl
    rw [hlen2]
    repeat' first
      | refine CO.cons rfl ?_
      | refine CO.nil ?_
      | refine CV.region callees ?_
      | refine ⟨(⟨by omega, by omega⟩ : inI64 _), ?_⟩
      | fail
    refine ⟨(i + 1, be'), (by repeat' first | exact trivial | refine ⟨rfl, ?_⟩ | refine ⟨slot_int (by (try simp only [Int.toNat_natCast]); omega), ?_⟩), (by (try dsimp only); omega), ?_⟩
    exact ⟨by omega, (kb6.get b0 (by omega) (by simp [blkOf]; omega)).trans hc5, hb3', kb6.keep (kx.trans k5) (fun c hc => by simp [blkOf] at hc; omega), by omega, by omega⟩
  obtain rfl : i = o.length := by omega
  rw [List.take_length] at hgx hEl
  obtain ⟨E, hE⟩ : ∃ E, evs0 mk lo hh ls o = E := ⟨_, rfl⟩
  have hbd : ∀ j, j < E.length → 0 ≤ E[j]!.hi ∧ E[j]!.hi ≤ 100000 := fun j hj => by
    have := evs0_bd (mk := mk) (lo := lo) (hi := hh) hls hok h0 h1 h2 h3 j (by rw [hE]; exact hj)
    rw [hE] at this
    exact this.2
  have hres : evsL mk lo hh ls o = downL E := by rw [evsL, hE]
  rw [hE] at hgx hEl
  rw [hres]
  have hdl := downL_len (E := E)
  have hdb := downL_bd hbd
  repeat' first
    | refine CO.cons rfl ?_
    | refine CO.nil ?_
    | refine CV.seq ?_
    | refine CV.region callees ?_
    | refine CV.cond ?_
    | refine CV.block ?_
    | refine CV.exit ?_
    | refine ⟨(⟨by omega, by omega⟩ : inI64 _), ?_⟩
    | (refine ⟨_, ev_sl, ?_⟩)
    | (refine ⟨fun _ => ?_, fun _ => ?_⟩ <;> first | (exfalso; omega) | skip)
    | fail
  refine CV.loopc ?_
  refine WCv.rounds callees false (α := Nat × List Ev) (fun (i, F) => [(5, .slice (some ⟨be, 0, none⟩) (o.length + 1) 0), (10, VI i)]) (fun (i, F) Hz => i < E.length ∧ F.length = E.length ∧ (∀ j, j < E.length → F[j]! = if i ≤ j then (downL E)[j]! else E[j]!) ∧ Hz.get be = some (.cells (F.map Evl).flatten 124 2) ∧ Keep H Hz ∧ be < Hz.n) (fun (i, F) => i) (o.length, E) (by repeat' first | exact trivial | refine ⟨rfl, ?_⟩ | refine ⟨slot_int (by (try simp only [Int.toNat_natCast]); omega), ?_⟩) ?_ ?_
  · refine ⟨by omega, rfl, fun j hj => ?_, hgx, kx, lx⟩
    split
    · rename_i h
      obtain rfl : j = E.length - 1 := by omega
      exact (downL_last (by omega)).symm
    · rfl
  clear hgx kx hrx hox hcx
  rintro ⟨i, F⟩ Hy ⟨hi, hFl, hF, hgy, ky, ly⟩ hBy
  by_cases hi2 : 0 < i
  · have hj : i - 1 < E.length := by omega
    have hi1 : ((i : Int) - 1).toNat = i - 1 := by omega
    have hF1 := hF (i - 1) hj
    rw [if_neg (by omega)] at hF1
    have hF2 := hF i hi
    rw [if_pos (Nat.le_refl _)] at hF2
    have hd1 := downL_at (E := E) (j := i - 1) (by omega)
    rw [show i - 1 + 1 = i by omega] at hd1
    have hdbi := hdb i hi
    have hbdi := hbd (i - 1) hj
    have hc1 : (F.map Evl).flatten[((i : Int) - 1).toNat * 4 + 2 + 1]? = some (VI F[i - 1]!.hi) := by
      rw [hi1, show (i - 1) * 4 + 2 + 1 = (i - 1) * 4 + 3 by omega]; exact ev_cell (q := 3) (by omega) rfl
    have hc2 : (F.map Evl).flatten[((i : Int)).toNat * 4 + 2 + 1]? = some (VI F[i]!.hi) := by
      rw [Int.toNat_natCast, show i * 4 + 2 + 1 = i * 4 + 3 by omega]; exact ev_cell (q := 3) (by omega) rfl
    rw [hF1] at hc1
    rw [hF2] at hc2
    repeat' first
      | refine CO.cons rfl ?_
      | refine CO.nil ?_
      | refine CV.seq ?_
      | refine CV.region callees ?_
      | refine CV.cond ?_
      | refine CV.block ?_
      | refine CV.skip ?_
      | refine CV.draw callees (by decide +kernel) ?_
      | refine CH.cons rfl ?_
      | refine CH.nil ?_
      | refine ⟨(⟨by omega, by omega⟩ : inI64 _), ?_⟩
      | refine ⟨_, fun tm ha => step1_min rfl (ev_tmp ha rfl) (ev_tmp ha rfl), ?_⟩
      | (refine ⟨_, ev_adr (by omega) (by omega), ?_⟩)
      | (refine ⟨_, fS foE2 (by decide), ?_⟩)
      | (refine ⟨_, fS foS1 (by decide), ?_⟩)
      | (refine ⟨_, cell_load ag3 hgy hc1, ?_⟩)
      | (refine ⟨_, cell_load ag3 hgy hc2, ?_⟩)
      | (refine ⟨fun _ => ?_, fun _ => ?_⟩ <;> first | (exfalso; omega) | skip)
      | fail
    refine ⟨_, _, store_row (i := ((i : Int) - 1).toNat * 4 + 2 + 1) sz3 hgy (by rw [flat_len evRows, List.length_map]; omega) rfl, by omega, ?_⟩
    rw [hi1, show (i - 1) * 4 + 2 + 1 = (i - 1) * 4 + 3 by omega, ev_set (by omega), hF1]
    generalize hs7 : Heap.set Hy be _ = H7
    have hg7 := set_get hs7
    have n7 := set_n hs7
    have o7 := set_old hs7
    repeat' first
      | refine CO.cons rfl ?_
      | refine CO.nil ?_
      | refine CV.region callees ?_
      | refine CH.nil ?_
      | refine ⟨(⟨by omega, by omega⟩ : inI64 _), ?_⟩
      | fail
    refine ⟨(i - 1, F.set (i - 1) ⟨E[i - 1]!.k, E[i - 1]!.o, E[i - 1]!.lo, min E[i - 1]!.hi ((downL E)[i]!.hi - 1)⟩), (by repeat' first | exact trivial | refine ⟨rfl, ?_⟩ | refine ⟨slot_int (by (try simp only [Int.toNat_natCast]); omega), ?_⟩), (by (try dsimp only); omega), ?_⟩
    refine ⟨by omega, by rw [List.length_set]; exact hFl, fun j hj' => ?_, hg7, keep_put ky (by omega) o7 n7, by omega⟩
    rw [getElem!_pos (F.set _ _) j (by rw [List.length_set]; omega), List.getElem_set]
    by_cases e : i - 1 = j
    · subst e
      rw [if_pos rfl, if_pos (Nat.le_refl _)]
      exact hd1.symm
    · rw [if_neg e]
      have := hF j hj'
      rw [getElem!_pos F j (by omega)] at this
      rw [this]
      by_cases c : i ≤ j
      · rw [if_pos c, if_pos (by omega)]
      · rw [if_neg c, if_neg (by omega)]
  obtain rfl : i = 0 := by omega
  have hFe : F = downL E := by
    apply List.ext_getElem (by omega)
    intro j h1 h2
    have := hF j (by omega)
    rw [if_pos (Nat.zero_le _), getElem!_pos F j h1, getElem!_pos (downL E) j h2] at this
    exact this
  subst hFe
  repeat' first
    | refine CO.cons rfl ?_
    | refine CO.nil ?_
    | refine CV.seq ?_
    | refine CV.region callees ?_
    | refine CV.cond ?_
    | refine CV.exit ?_
    | refine CV.ret ?_
    | (refine ⟨fun _ => ?_, fun _ => ?_⟩ <;> first | (exfalso; omega) | skip)
    | fail
  exact ⟨rfl, ⟨evRows, .inr ⟨be, by rw [List.length_map, hdl, hEl], by omega, ly, hgy⟩⟩, ky⟩
end Go.Proofs.Ytijimplcjaeneaa



/- Who may be the holder on a day, if these are the events: gathered in a map. -/
namespace Go.AI
theorem RowS.keepM {s : Nat} {H H' : Heap} {r : Nat} {v : Value} {rs : List (List Value)} {es : List (Value × Value)} (h : RowS s H v rs) (k : KeepX r H H') (hr : H.get r = some (.map es)) : RowS s H' v rs := by
  refine ⟨h.1, ?_⟩
  rcases h.2 with h | h | ⟨b', i, c, cs, e, kd, h1, h2, h3, h4, h5⟩
  · exact .inl h
  · exact .inr (.inl h)
  · refine .inr (.inr ⟨b', i, c, cs, e, kd, h1, Nat.lt_of_lt_of_le h2 k.1, ?_, h4, h5⟩)
    rw [k.2 b' h2 (by rintro rfl; rw [hr] at h3; cases h3)]; exact h3
theorem Row.keepM {H H' : Heap} {r : Nat} {v : Value} {vs : List Value} {es : List (Value × Value)} (h : Row H v vs) (k : KeepX r H H') (hr : H.get r = some (.map es)) : Row H' v vs := by
  rcases h with h | h | ⟨b', i, c, cs, e, kd, h1, h2, h3, h4, h5⟩
  · exact .inl h
  · exact .inr (.inl h)
  · refine .inr (.inr ⟨b', i, c, cs, e, kd, h1, Nat.lt_of_lt_of_le h2 k.1, ?_, h4, h5⟩)
    rw [k.2 b' h2 (by rintro rfl; rw [hr] at h3; cases h3)]; exact h3
end Go.AI
namespace Go.Proofs.Ytijimplcjaeneaa
open Go.AI
theorem unMB : Try.prog.underlying 131 = some (.map 3 4) := by kernel_rfl
def entK (ks : List Int) : List (Value × Value) := ks.map fun k => (VI k, Value.bool true)
def addK (ks : List Int) (x : Int) : List Int := if x ∈ ks then ks else ks ++ [x]
theorem findK {k0 : IntKind} (x : Int) : ∀ (ks : List Int) (j : Nat), findA (.int k0) (VI x) (entK ks) j = some (if x ∈ ks then some (j + ks.idxOf x, .bool true) else none)
  | [], _ => by simp [entK, findA]
  | y :: r, j => by
    have ih := findK (k0 := k0) x r (j + 1)
    simp only [entK, List.map_cons, findA, Instr.sameNow, if_true] at ih ⊢
    by_cases h : x = y
    · subst h; simp
    · have h' : (x == y) = false := by simpa using h
      rw [h']
      simp only []
      rw [ih]
      have h2 : ¬ y = x := fun h3 => h h3.symm
      simp only [List.mem_cons, h, false_or, List.idxOf_cons, beq_eq_false_iff_ne.2 h2, cond_false]
      split
      · rw [show j + 1 + List.idxOf x r = j + (List.idxOf x r + 1) by omega]
      · rfl
theorem updateK {H : Heap} {r : Nat} {ks : List Int} {x : Int} (hr : H.get r = some (.map (entK ks))) : amapUpdate Try.prog H 131 (.map (some r)) (VI x) (.bool true) = some (H.set r (.map (entK (addK ks x))), r) := by
  simp only [amapUpdate, unMB, hr, un3]
  rw [if_pos ⟨rfl, rfl, checkKey_int un3⟩, findK]
  unfold addK
  by_cases hx : x ∈ ks
  · rw [if_pos hx, if_pos hx]
    simp only [Nat.zero_add]
    have hi : ks.idxOf x < ks.length := List.idxOf_lt_length_of_mem hx
    have : (entK ks).set (ks.idxOf x) (VI x, Value.bool true) = entK ks := by
      apply List.ext_getElem (by simp)
      intro j h1 h2
      rw [List.getElem_set]
      split
      · rename_i e
        subst e
        simp [entK]
      · rfl
    rw [this]
  · rw [if_neg hx, if_neg hx]
    simp only [entK, List.map_append, List.map_cons, List.map_nil]
def gathK (d : Int) : List Int → Int → List Ev → List Int
  | ks, h, [] => addK ks h
  | ks, h, e :: t => if d < e.lo then (if d < e.hi then addK ks h else ks) else gathK d (if d < e.hi then addK ks h else ks) e.o t
set_option maxHeartbeats 16000000 in
set_option maxRecDepth 100000 in
theorem gather_spec [Orc] {B r : Nat} {H : Heap} {ev : Value} {E : List Ev} {ks : List Int} {d : Int} (hB : B ≤ r) (hrn : r < H.n) (hm : H.get r = some (.map (entK ks))) (hE : RowS 4 H ev (E.map Evl)) (hEl : E.length < 1000000) :
    CallB Try.prog B 90 [.map (some r), ev, VI d] H (fun _ H' => H'.get r = some (.map (entK (gathK d ks (-1) E))) ∧ KeepX r H H') := by
  have hBn : B ≤ H.n := by omega
  refine CV.enter callees false (Orc.hv rfl rfl) Try.func90 rfl (by kernel_rfl) (Nat.le_of_ble_eq_true rfl) hBn ?_ (Orc.hw rfl rfl)
  repeat' first
    | refine CO.cons rfl ?_
    | refine CO.nil ?_
    | refine CV.seq ?_
    | refine CV.region callees ?_
    | refine CV.block ?_
    | (refine ⟨_, ev_len hE, ?_⟩)
    | fail
  refine CV.loopc ?_
  refine WCv.rounds callees false (α := Nat × Int × List Int) (fun (i, h, K) => [(0, .map (some r)), (2, VI d), (6, VI h), (9, ev), (10, VI E.length), (11, VI i)]) (fun (i, h, K) Hz => i ≤ E.length ∧ gathK d K h (E.drop i) = gathK d ks (-1) E ∧ Hz.get r = some (.map (entK K)) ∧ KeepX r H Hz ∧ r < Hz.n) (fun (i, h, K) => E.length - i) (0, -1, ks) (by repeat' first | exact trivial | refine ⟨rfl, ?_⟩ | refine ⟨slot_int (by (try simp only [Int.toNat_natCast]); omega), ?_⟩) ?_ ?_
  · exact ⟨by omega, rfl, hm, KeepX.refl _ _, hrn⟩
  rintro ⟨i, h, K⟩ Hx ⟨hi, hg, hmx, kx, lx⟩ hBx
  have hEx := hE.keepM kx hm
  by_cases hi2 : i < E.length
  · rw [show E.drop i = E[i]! :: E.drop (i + 1) by rw [List.drop_eq_getElem_cons hi2, getElem!_pos E i hi2]] at hg
    simp only [gathK] at hg
    repeat' first
      | refine CO.cons rfl ?_
      | refine CO.nil ?_
      | refine CV.seq ?_
      | refine CV.region callees ?_
      | refine CV.cond ?_
      | refine CV.block ?_
      | refine CV.skip ?_
      | (refine ⟨_, ev_addr hEx (by omega) (by omega), ?_⟩)
      | (refine ⟨_, ev_load hEx hi2, ?_⟩)
      | (refine ⟨_, _, alEv, ?_⟩)
      | (refine ⟨fun _ => ?_, fun _ => ?_⟩ <;> first | (exfalso; omega) | skip)
      | fail
    generalize hs4 : Heap.new Hx _ = H4
    have hg4 := new_get hs4
    have k4 := new_keep hs4
    have n4 := new_n hs4
    obtain ⟨b4, hbn4⟩ : ∃ b, Heap.n Hx = b := ⟨_, rfl⟩
    rw [hbn4] at hg4 n4 ⊢
    repeat' first
      | fail
    refine ⟨_, _, stEv hg4, by omega, ?_⟩
    generalize hs5 : Heap.set H4 b4 _ = H5
    have hg5 : H5.get b4 = some (.cells (Evl E[i]!) 124 1) := set_get hs5
    have n5 := set_n hs5
    have o5 := set_old hs5
    have k5 : Keep Hx H5 := keep_put k4 (by omega) o5 n5
    have hm5 := (k5.2 r (by omega)).trans hmx
    obtain ⟨e, he⟩ : ∃ e, E[i]! = e := ⟨_, rfl⟩
    rw [he] at hg hg5
    by_cases c1 : d < e.hi
    · rw [if_pos c1] at hg
      repeat' first
        | refine CO.cons rfl ?_
        | refine CO.nil ?_
        | refine CV.seq ?_
        | refine CV.region callees ?_
        | refine CV.cond ?_
        | (refine ⟨_, fS foE2 (by decide), ?_⟩)
        | (refine ⟨_, fS foS1 (by decide), ?_⟩)
        | (refine ⟨_, cell_load ag3 hg5 rfl, ?_⟩)
        | (refine ⟨fun _ => ?_, fun _ => ?_⟩ <;> first | (exfalso; omega) | skip)
        | fail
      refine ⟨_, _, updateK hm5, by omega, ?_⟩
      generalize hs6 : Heap.set H5 r _ = H6
      have hg6 := set_get hs6
      have n6 := set_n hs6
      have o6 := set_old hs6
      have hg5' := (o6 b4 (by omega)).trans hg5
      have kx6 : KeepX r H H6 := kx.trans ⟨by have := k5.1; omega, fun p hp hpr => (o6 p hpr).trans (k5.2 p hp)⟩
      by_cases c2 : d < e.lo
      · rw [if_pos c2] at hg
        rw [← hg]
        repeat' first
          | refine CO.cons rfl ?_
          | refine CO.nil ?_
          | refine CV.seq ?_
          | refine CV.region callees ?_
          | refine CV.cond ?_
          | refine CV.ret ?_
          | (refine ⟨_, fS foE2 (by decide), ?_⟩)
          | (refine ⟨_, fS foS0 (by decide), ?_⟩)
          | (refine ⟨_, cell_load ag3 hg5' rfl, ?_⟩)
          | (refine ⟨fun _ => ?_, fun _ => ?_⟩ <;> first | (exfalso; omega) | skip)
          | fail
        exact ⟨rfl, hg6, kx6⟩
      · rw [if_neg c2] at hg
        repeat' first
          | refine CO.cons rfl ?_
          | refine CO.nil ?_
          | refine CV.seq ?_
          | refine CV.region callees ?_
          | refine CV.cond ?_
          | refine CV.skip ?_
          | refine ⟨(⟨by omega, by omega⟩ : inI64 _), ?_⟩
          | (refine ⟨_, fS foE2 (by decide), ?_⟩)
          | (refine ⟨_, fS foS0 (by decide), ?_⟩)
          | (refine ⟨_, fS foE1 (by decide), ?_⟩)
          | (refine ⟨_, cell_load ag3 hg5' rfl, ?_⟩)
          | (refine ⟨fun _ => ?_, fun _ => ?_⟩ <;> first | (exfalso; omega) | skip)
          | fail
        refine ⟨(i + 1, e.o, addK K h), (by repeat' first | exact trivial | refine ⟨rfl, ?_⟩ | refine ⟨slot_int (by (try simp only [Int.toNat_natCast]); omega), ?_⟩), (by (try dsimp only); omega), ?_⟩
        exact ⟨by omega, hg, hg6, kx6, by omega⟩
    · rw [if_neg c1] at hg
      have kx6 : KeepX r H H5 := kx.trans ⟨k5.1, fun p hp _ => k5.2 p hp⟩
      have l5 := k5.1
      by_cases c2 : d < e.lo
      · rw [if_pos c2] at hg
        rw [← hg]
        repeat' first
          | refine CO.cons rfl ?_
          | refine CO.nil ?_
          | refine CV.seq ?_
          | refine CV.region callees ?_
          | refine CV.cond ?_
          | refine CV.skip ?_
          | refine CV.ret ?_
          | (refine ⟨_, fS foE2 (by decide), ?_⟩)
          | (refine ⟨_, fS foS0 (by decide), ?_⟩)
          | (refine ⟨_, fS foS1 (by decide), ?_⟩)
          | (refine ⟨_, cell_load ag3 hg5 rfl, ?_⟩)
          | (refine ⟨fun _ => ?_, fun _ => ?_⟩ <;> first | (exfalso; omega) | skip)
          | fail
        exact ⟨rfl, hm5, kx6⟩
      · rw [if_neg c2] at hg
        repeat' first
          | refine CO.cons rfl ?_
          | refine CO.nil ?_
          | refine CV.seq ?_
          | refine CV.region callees ?_
          | refine CV.cond ?_
          | refine CV.skip ?_
          | refine ⟨(⟨by omega, by omega⟩ : inI64 _), ?_⟩
          | (refine ⟨_, fS foE2 (by decide), ?_⟩)
          | (refine ⟨_, fS foS0 (by decide), ?_⟩)
          | (refine ⟨_, fS foS1 (by decide), ?_⟩)
          | (refine ⟨_, cell_load ag3 hg5 rfl, ?_⟩)
          | (refine ⟨fun _ => ?_, fun _ => ?_⟩ <;> first | (exfalso; omega) | skip)
          | fail
        refine ⟨(i + 1, e.o, K), (by repeat' first | exact trivial | refine ⟨rfl, ?_⟩ | refine ⟨slot_int (by (try simp only [Int.toNat_natCast]); omega), ?_⟩), (by (try dsimp only); omega), ?_⟩
        exact ⟨by omega, hg, hm5, kx6, by omega⟩
  obtain rfl : i = E.length := by omega
  rw [List.drop_length] at hg
  simp only [gathK] at hg
  repeat' first
    | refine CO.cons rfl ?_
    | refine CO.nil ?_
    | refine CV.seq ?_
    | refine CV.region callees ?_
    | refine CV.cond ?_
    | refine CV.exit ?_
    | (refine ⟨fun _ => ?_, fun _ => ?_⟩ <;> first | (exfalso; omega) | skip)
    | fail
  refine ⟨_, _, updateK hmx, by omega, ?_⟩
  rw [hg]
  generalize hs6 : Heap.set Hx r _ = H6
  have hg6 := set_get hs6
  have n6 := set_n hs6
  have o6 := set_old hs6
  repeat' first
    | refine CO.nil ?_
    | fail
  exact ⟨rfl, hg6, kx.trans ⟨by omega, fun p _ hpr => o6 p hpr⟩⟩
end Go.Proofs.Ytijimplcjaeneaa



/- slices.Sort of a few ints of one's own. -/
namespace Go.AI
/-- Sorted below a place, but for one. -/
def SrtB (l : List Int) (i j : Nat) : Prop := (∀ a b, a < b → b ≤ i → a ≠ j → b ≠ j → l[a]! ≤ l[b]!) ∧ ∀ b, j < b → b ≤ i → l[j]! ≤ l[b]!
def Srt (l : List Int) (i : Nat) : Prop := ∀ a b, a < b → b < i → l[a]! ≤ l[b]!
theorem set_set_perm' {l : List Int} {i j : Nat} (hi : i < l.length) (hj : j < l.length) : ((l.set i l[j]!).set j l[i]!).Perm l := by
  have := Array.swap_perm (xs := l.toArray) (i := i) (j := j) (by simpa using hi) (by simpa using hj)
  rw [Array.perm_iff_toList_perm] at this
  rw [getElem!_pos l j hj, getElem!_pos l i hi]
  simpa [Array.swap] using this
end Go.AI
namespace Go.Proofs.Ytijimplcjaeneaa
open Go.AI
theorem srt_start {l : List Int} {i : Nat} (h : Srt l i) : SrtB l i i := ⟨fun a b h1 h2 _ h4 => h a b h1 (by omega), fun b h1 h2 => by omega⟩
theorem srt_end {l : List Int} {i j : Nat} (h : SrtB l i j) (hj : j ≤ i) (hs : j = 0 ∨ l[j - 1]! ≤ l[j]!) : Srt l (i + 1) := by
  intro a b hab hb
  by_cases ha : a = j
  · subst ha; exact h.2 b hab (by omega)
  · by_cases hbj : b = j
    · subst hbj
      rcases hs with h0 | h0
      · omega
      · by_cases e : a = b - 1
        · rw [e]; exact h0
        · have := h.1 a (b - 1) (by omega) (by omega) ha (by omega)
          omega
    · exact h.1 a b hab (by omega) ha hbj
theorem srt_step {l : List Int} {i j : Nat} (h : SrtB l i (j + 1)) (hi : i < l.length) (hj : j + 1 ≤ i) (hlt : l[j + 1]! < l[j]!) : SrtB ((l.set (j + 1) l[j]!).set j l[j + 1]!) i j := by
  have g : ∀ a, a < l.length → ((l.set (j + 1) l[j]!).set j l[j + 1]!)[a]! = if j = a then l[j + 1]! else if j + 1 = a then l[j]! else l[a]! := fun a ha => by
    rw [get_set (by rw [List.length_set]; exact ha), get_set ha]
  refine ⟨fun a b hab hb ha hbj => ?_, fun b hb1 hb2 => ?_⟩
  · rw [g a (by omega), g b (by omega), if_neg (Ne.symm ha), if_neg (Ne.symm hbj)]
    by_cases e : j + 1 = a
    · subst e
      rw [if_pos rfl, if_neg (by omega)]
      exact h.1 j b (by omega) hb (by omega) (by omega)
    · rw [if_neg e]
      by_cases f : j + 1 = b
      · subst f
        rw [if_pos rfl]
        exact h.1 a j (by omega) (by omega) (by omega) (by omega)
      · rw [if_neg f]
        exact h.1 a b hab hb (by omega) (by omega)
  · rw [g j (by omega), g b (by omega), if_pos rfl, if_neg (by omega)]
    by_cases f : j + 1 = b
    · subst f
      rw [if_pos rfl]; omega
    · rw [if_neg f]
      exact h.2 b (by omega) hb2
set_option maxRecDepth 100000 in
theorem isNaN_spec [Orc] {B : Nat} {H : Heap} {x : Int} (hB : B ≤ H.n) :
    CallB Try.prog B 154 [VI x] H (fun r H' => r = .bool false ∧ H' = H) := by
  refine CV.enter callees false (Orc.hv rfl rfl) Try.func154 rfl (by kernel_rfl) (Nat.le_of_ble_eq_true rfl) hB ?_ (Orc.hw rfl rfl)
  repeat' first
    | refine CO.cons rfl ?_
    | refine CO.nil ?_
    | refine CV.seq ?_
    | refine CV.region callees ?_
    | refine CV.ret ?_
    | (refine ⟨fun _ => ?_, fun _ => ?_⟩ <;> first | (exfalso; omega) | skip)
    | fail
  exact ⟨rfl, rfl, rfl⟩
set_option maxRecDepth 100000 in
theorem less_spec [Orc] {B : Nat} {H : Heap} {x y : Int} (hB : B ≤ H.n) :
    CallB Try.prog B 144 [VI x, VI y] H (fun r H' => r = .bool (decide (x < y)) ∧ H' = H) := by
  refine CV.enter callees false (Orc.hv rfl rfl) Try.func144 rfl (by kernel_rfl) (Nat.le_of_ble_eq_true rfl) hB ?_ (Orc.hw rfl rfl)
  repeat' first
    | refine CO.cons rfl ?_
    | refine CO.nil ?_
    | refine CV.seq ?_
    | refine CV.region callees ?_
    | fail
  refine (isNaN_spec hB).mono ?_
  rintro r H' ⟨rfl, rfl⟩
  by_cases h : x < y
  · rw [decide_eq_true h]
    repeat' first
      | refine CO.cons rfl ?_
      | refine CO.nil ?_
      | refine CV.ret ?_
      | refine CO.consG rfl ?_
      | (refine ⟨fun _ => ?_, fun _ => ?_⟩ <;> first | (exfalso; omega) | skip)
      | fail
    exact ⟨rfl, rfl, rfl⟩
  · rw [decide_eq_false h]
    repeat' first
      | refine CO.cons rfl ?_
      | refine CO.nil ?_
      | refine CV.ret ?_
      | refine CO.consG rfl ?_
      | (refine ⟨fun _ => ?_, fun _ => ?_⟩ <;> first | (exfalso; omega) | skip)
      | fail
    exact ⟨rfl, rfl, rfl⟩
theorem sl_adr {b n c : Nat} {i : Int} (h0 : 0 ≤ i) (h1 : i < n) : aindexAddr Try.prog 29 (.slice (some ⟨b, 0, none⟩) n c) (.int .i64 i) = some (.pointer (some ⟨b, i.toNat, none⟩)) := by
  simp [aindexAddr, asIdx, un22, sz3, h0, h1]
theorem cell_at {p : List Int} {i : Nat} (h : i < p.length) : (p.map VI)[i]? = some (VI p[i]!) := by
  rw [List.getElem?_map, List.getElem?_eq_getElem h, getElem!_pos p i h]; rfl
theorem arr_put {H : Heap} {b i : Nat} {l : List Int} {e : TypeId} {k : Nat} {y : Int} (hg : H.get b = some (.cells (l.map VI) e (k + 1))) (hi : i < l.length) :
    astore Try.prog 3 H (.int .i64 y) (.pointer (some ⟨b, i, none⟩)) = some (H.set b (.cells ((l.set i y).map VI) e (k + 1)), b) := by
  rw [store_row (i := i) sz3 hg (by rw [List.length_map]; exact hi) rfl, ← List.map_set]
set_option maxHeartbeats 4000000 in
set_option maxRecDepth 100000 in
theorem insert_spec [Orc] {B b c : Nat} {H : Heap} {l : List Int} (hB : B ≤ b) (hn : B ≤ H.n) (hbn : b < H.n) (hg : H.get b = some (.cells (l.map VI) 3 2)) (hl : l.length ≤ 12) (hl1 : 1 ≤ l.length) :
    CallB Try.prog B 138 [.slice (some ⟨b, 0, none⟩) l.length c, VI 0, VI l.length] H (fun r H' => ∃ R : List Int, R.Perm l ∧ Srt R l.length ∧ H'.get b = some (.cells (R.map VI) 3 2) ∧ H'.n = H.n ∧ ∀ d, d ≠ b → H'.get d = H.get d) := by
  refine CV.enter callees false (Orc.hv rfl rfl) Try.func138 rfl (by kernel_rfl) (Nat.le_of_ble_eq_true rfl) hn ?_ (Orc.hw rfl rfl)
  repeat' first
    | refine CO.cons rfl ?_
    | refine CO.nil ?_
    | refine CV.seq ?_
    | refine CV.region callees ?_
    | refine CV.block ?_
    | refine ⟨(⟨by omega, by omega⟩ : inI64 _), ?_⟩
    | fail
  refine CV.loopc ?_
  refine WCv.rounds callees false (α := Nat × List Int) (fun (i, p) => [(0, .slice (some ⟨b, 0, none⟩) l.length c), (1, VI 0), (2, VI l.length), (6, VI (i + 1))]) (fun (i, p) Hz => i < l.length ∧ p.Perm l ∧ Srt p (i + 1) ∧ Hz.get b = some (.cells (p.map VI) 3 2) ∧ Hz.n = H.n ∧ (∀ d, d ≠ b → Hz.get d = H.get d)) (fun (i, p) => l.length - i) (0, l) (by repeat' first | exact trivial | refine ⟨rfl, ?_⟩ | refine ⟨slot_int (by (try simp only [Int.toNat_natCast]); omega), ?_⟩) ?_ ?_
  · exact ⟨by omega, List.Perm.refl _, fun a b h1 h2 => by omega, hg, rfl, fun _ _ => rfl⟩
  rintro ⟨i, m⟩ Hx ⟨hi, hpm, hsm, gx, nx, ox⟩ hBx
  have hml := hpm.length_eq
  by_cases hi2 : i + 1 < l.length
  · repeat' first
      | refine CO.cons rfl ?_
      | refine CO.nil ?_
      | refine CV.seq ?_
      | refine CV.region callees ?_
      | refine CV.cond ?_
      | refine CV.block ?_
      | refine CV.skip ?_
      | (refine ⟨fun _ => ?_, fun _ => ?_⟩ <;> first | (exfalso; omega) | skip)
      | fail
    refine CV.loopc ?_
    refine WCv.rounds callees false (α := List Int × Nat) (fun (p, j) => [(0, .slice (some ⟨b, 0, none⟩) l.length c), (1, VI 0), (2, VI l.length), (6, VI (i + 1)), (7, VI j)]) (fun (p, j) Hz => j ≤ i + 1 ∧ p.Perm l ∧ SrtB p (i + 1) j ∧ Hz.get b = some (.cells (p.map VI) 3 2) ∧ Hz.n = H.n ∧ (∀ d, d ≠ b → Hz.get d = H.get d)) (fun (p, j) => j) (m, i + 1) (by repeat' first | exact trivial | refine ⟨rfl, ?_⟩ | refine ⟨slot_int (by (try simp only [Int.toNat_natCast]); omega), ?_⟩) ?_ ?_
    · exact ⟨by omega, hpm, srt_start hsm, gx, nx, ox⟩
    clear gx nx ox hsm hpm hml
    rintro ⟨p, j⟩ Hy ⟨hj, hp, hps, gy, ny, oy⟩ hBy
    have hpl := hp.length_eq
    match j, hj, hps with
    | 0, hj, hps =>
      have := srt_end hps (by omega) (.inl rfl)
      repeat' first
        | refine CO.cons rfl ?_
        | refine CO.nil ?_
        | refine CV.seq ?_
        | refine CV.region callees ?_
        | refine CV.cond ?_
        | refine CV.exit ?_
        | refine CV.draw callees (by decide +kernel) ?_
        | refine CH.cons rfl ?_
        | refine CH.nil ?_
        | refine CH.consG rfl ?_
        | refine ⟨(⟨by omega, by omega⟩ : inI64 _), ?_⟩
        | (refine ⟨fun _ => ?_, fun _ => ?_⟩ <;> first | (exfalso; omega) | skip)
        | fail
      refine ⟨(i + 1, p), (by repeat' first | exact trivial | refine ⟨rfl, ?_⟩ | refine ⟨slot_int (by (try simp only [Int.toNat_natCast]); omega), ?_⟩), (by (try dsimp only); omega), ?_⟩
      exact ⟨by omega, hp, this, gy, ny, oy⟩
    | j + 1, hj, hps =>
      have x1 : p[((j + 1 : Nat) : Int).toNat]! = p[j + 1]! := rfl
      have x3 : (((j + 1 : Nat) : Int) - 1).toNat = j := by omega
      have x2 : p[(((j + 1 : Nat) : Int) - 1).toNat]! = p[j]! := by rw [x3]
      have hc1 : (p.map VI)[((j + 1 : Nat) : Int).toNat]? = some (VI p[j + 1]!) := cell_at (by omega)
      have hc2 : (p.map VI)[(((j + 1 : Nat) : Int) - 1).toNat]? = some (VI p[j]!) := by rw [x3]; exact cell_at (by omega)
      repeat' first
        | refine CV.seq ?_
        | refine CV.draw callees (by decide +kernel) ?_
        | refine CH.cons rfl ?_
        | refine CH.consG rfl ?_
        | refine ⟨(⟨by omega, by omega⟩ : inI64 _), ?_⟩
        | (refine ⟨_, sl_adr (by omega) (by omega), ?_⟩)
        | (refine ⟨_, cell_load ag3 gy hc1, ?_⟩)
        | (refine ⟨_, cell_load ag3 gy hc2, ?_⟩)
        | (refine ⟨fun _ => ?_, fun _ => ?_⟩ <;> first | (exfalso; omega) | skip)
        | fail
      refine (less_spec (by omega)).mono ?_
      by_cases hlt : p[j + 1]! < p[j]!
      · rw [decide_eq_true hlt]
        rintro r Hw ⟨rfl, rfl⟩
        have hstep := srt_step hps (by omega) (by omega) hlt
        have hperm : ((p.set (j + 1) p[j]!).set j p[j + 1]!).Perm l := (set_set_perm' (i := j + 1) (j := j) (by omega) (by omega)).trans hp
        repeat' first
          | refine CO.nil ?_
          | refine CV.seq ?_
          | refine CV.cond ?_
          | refine CV.block ?_
          | refine CV.skip ?_
          | refine CH.cons rfl ?_
          | refine CH.nil ?_
          | refine CR.cons ?_
          | refine ⟨(rfl : plain _ = true), ?_⟩
          | refine ⟨(⟨by omega, by omega⟩ : inI64 _), ?_⟩
          | refine CV.wideR callees (by decide +kernel) [(0, []), (1, []), (2, []), (3, []), (4, []), (5, []), (6, []), (7, []), (8, []), (9, []), (10, []), (11, []), (12, []), (13, []), (14, []), (15, [4]), (16, []), (17, [])] (by kernel_rfl) ?_
          | (refine ⟨_, sl_adr (by omega) (by omega), ?_⟩)
          | (refine ⟨_, cell_load ag3 gy hc1, ?_⟩)
          | (refine ⟨_, cell_load ag3 gy hc2, ?_⟩)
          | fail
        refine ⟨_, _, arr_put gy (by omega), by omega, ?_⟩
        generalize hs1 : Heap.set Hw b _ = H1
        have g1 := set_get hs1
        have n1 := set_n hs1
        have o1 := set_old hs1
        repeat' first
          | refine CR.cons ?_
          | refine ⟨(⟨by omega, by omega⟩ : inI64 _), ?_⟩
          | (refine ⟨(rfl : _ = Value.int _ _), ?_⟩)
          | (refine ⟨same_int, ?_⟩)
          | (refine ⟨_, sl_adr (by omega) (by omega), ?_⟩)
          | fail
        refine ⟨_, _, arr_put g1 (by rw [List.length_set]; omega), by omega, ?_⟩
        generalize hs2 : Heap.set H1 b _ = H2
        have g2 := set_get hs2
        have n2 := set_n hs2
        have o2 := set_old hs2
        rw [x3] at g2
        have g2 : H2.get b = some (.cells (((p.set (j + 1) p[j]!).set j p[j + 1]!).map VI) 3 2) := g2
        repeat' first
          | refine CO.cons rfl ?_
          | refine CO.nil ?_
          | refine CV.region callees ?_
          | refine CR.nil ?_
          | refine ⟨(⟨by omega, by omega⟩ : inI64 _), ?_⟩
          | fail
        refine ⟨((p.set (j + 1) p[j]!).set j p[j + 1]!, j), (by repeat' first | exact trivial | refine ⟨rfl, ?_⟩ | refine ⟨slot_int (by (try simp only [Int.toNat_natCast]); omega), ?_⟩), (by (try dsimp only); omega), ?_⟩
        exact ⟨by omega, hperm, hstep, g2, by omega, fun d hd => by rw [o2 d hd, o1 d hd, oy d hd]⟩
      · rw [decide_eq_false hlt]
        rintro r Hw ⟨rfl, rfl⟩
        have := srt_end hps (by omega) (.inr (by rw [Nat.add_sub_cancel]; omega))
        repeat' first
          | refine CO.cons rfl ?_
          | refine CO.nil ?_
          | refine CV.region callees ?_
          | refine CV.cond ?_
          | refine CV.exit ?_
          | refine CH.cons rfl ?_
          | refine CH.nil ?_
          | refine ⟨(rfl : plain _ = true), ?_⟩
          | refine ⟨(⟨by omega, by omega⟩ : inI64 _), ?_⟩
          | fail
        refine ⟨(i + 1, p), (by repeat' first | exact trivial | refine ⟨rfl, ?_⟩ | refine ⟨slot_int (by (try simp only [Int.toNat_natCast]); omega), ?_⟩), (by (try dsimp only); omega), ?_⟩
        exact ⟨by omega, hp, this, gy, ny, oy⟩
  · have hil : i + 1 = l.length := by omega
    rw [hil] at hsm
    repeat' first
      | refine CO.cons rfl ?_
      | refine CO.nil ?_
      | refine CV.seq ?_
      | refine CV.region callees ?_
      | refine CV.cond ?_
      | refine CV.exit ?_
      | (refine ⟨fun _ => ?_, fun _ => ?_⟩ <;> first | (exfalso; omega) | skip)
      | fail
    exact ⟨rfl, m, hpm, hsm, gx, nx, ox⟩
end Go.Proofs.Ytijimplcjaeneaa



/- slices.Sort. -/
namespace Go.Proofs.Ytijimplcjaeneaa
open Go.AI
theorem un5 : Try.prog.underlying 5 = some (.int .u8) := by kernel_rfl
theorem un106 : Try.prog.underlying 112 = some (.int .u64) := by kernel_rfl
set_option maxHeartbeats 4000000 in
set_option maxRecDepth 100000 in
theorem len64_spec [Orc] {B : Nat} {H : Heap} {n : Nat} (hB : B ≤ H.n) (h1 : 1 ≤ n) (h9 : n ≤ 9) :
    CallB Try.prog B 148 [.int .u64 (n : Int)] H (fun r H' => (∃ z, r = VI z) ∧ H' = H) := by
  match n, h1, h9 with
  | 1, _, _ => 
    refine CV.enter callees false (Orc.hv rfl rfl) Try.func148 rfl (by kernel_rfl) (Nat.le_of_ble_eq_true rfl) hB ?_ (Orc.hw rfl rfl)
    repeat' first
      | refine CO.cons rfl ?_
      | refine CO.nil ?_
      | refine CV.seq ?_
      | refine CV.region callees ?_
      | refine CV.cond ?_
      | refine CV.skip ?_
      | refine CV.ret ?_
      | (refine ⟨_, fun tm ha => step1_conv un72 un5 rfl (ev_tmp ha rfl), ?_⟩)
      | (refine ⟨_, fun tm ha => step1_conv un5 un3 rfl (ev_tmp ha rfl), ?_⟩)
      | (refine ⟨Value.int .u8 1, by kernel_rfl, ?_⟩)
      | (refine ⟨(⟨by decide, by decide⟩ : inI64 _), ?_⟩)
      | (refine ⟨fun _ => ?_, fun _ => ?_⟩ <;> first | (exfalso; omega) | skip)
      | fail
    exact ⟨rfl, ⟨_, rfl⟩, rfl⟩
  | 2, _, _ => 
    refine CV.enter callees false (Orc.hv rfl rfl) Try.func148 rfl (by kernel_rfl) (Nat.le_of_ble_eq_true rfl) hB ?_ (Orc.hw rfl rfl)
    repeat' first
      | refine CO.cons rfl ?_
      | refine CO.nil ?_
      | refine CV.seq ?_
      | refine CV.region callees ?_
      | refine CV.cond ?_
      | refine CV.skip ?_
      | refine CV.ret ?_
      | (refine ⟨_, fun tm ha => step1_conv un72 un5 rfl (ev_tmp ha rfl), ?_⟩)
      | (refine ⟨_, fun tm ha => step1_conv un5 un3 rfl (ev_tmp ha rfl), ?_⟩)
      | (refine ⟨Value.int .u8 2, by kernel_rfl, ?_⟩)
      | (refine ⟨(⟨by decide, by decide⟩ : inI64 _), ?_⟩)
      | (refine ⟨fun _ => ?_, fun _ => ?_⟩ <;> first | (exfalso; omega) | skip)
      | fail
    exact ⟨rfl, ⟨_, rfl⟩, rfl⟩
  | 3, _, _ => 
    refine CV.enter callees false (Orc.hv rfl rfl) Try.func148 rfl (by kernel_rfl) (Nat.le_of_ble_eq_true rfl) hB ?_ (Orc.hw rfl rfl)
    repeat' first
      | refine CO.cons rfl ?_
      | refine CO.nil ?_
      | refine CV.seq ?_
      | refine CV.region callees ?_
      | refine CV.cond ?_
      | refine CV.skip ?_
      | refine CV.ret ?_
      | (refine ⟨_, fun tm ha => step1_conv un72 un5 rfl (ev_tmp ha rfl), ?_⟩)
      | (refine ⟨_, fun tm ha => step1_conv un5 un3 rfl (ev_tmp ha rfl), ?_⟩)
      | (refine ⟨Value.int .u8 2, by kernel_rfl, ?_⟩)
      | (refine ⟨(⟨by decide, by decide⟩ : inI64 _), ?_⟩)
      | (refine ⟨fun _ => ?_, fun _ => ?_⟩ <;> first | (exfalso; omega) | skip)
      | fail
    exact ⟨rfl, ⟨_, rfl⟩, rfl⟩
  | 4, _, _ => 
    refine CV.enter callees false (Orc.hv rfl rfl) Try.func148 rfl (by kernel_rfl) (Nat.le_of_ble_eq_true rfl) hB ?_ (Orc.hw rfl rfl)
    repeat' first
      | refine CO.cons rfl ?_
      | refine CO.nil ?_
      | refine CV.seq ?_
      | refine CV.region callees ?_
      | refine CV.cond ?_
      | refine CV.skip ?_
      | refine CV.ret ?_
      | (refine ⟨_, fun tm ha => step1_conv un72 un5 rfl (ev_tmp ha rfl), ?_⟩)
      | (refine ⟨_, fun tm ha => step1_conv un5 un3 rfl (ev_tmp ha rfl), ?_⟩)
      | (refine ⟨Value.int .u8 3, by kernel_rfl, ?_⟩)
      | (refine ⟨(⟨by decide, by decide⟩ : inI64 _), ?_⟩)
      | (refine ⟨fun _ => ?_, fun _ => ?_⟩ <;> first | (exfalso; omega) | skip)
      | fail
    exact ⟨rfl, ⟨_, rfl⟩, rfl⟩
  | 5, _, _ => 
    refine CV.enter callees false (Orc.hv rfl rfl) Try.func148 rfl (by kernel_rfl) (Nat.le_of_ble_eq_true rfl) hB ?_ (Orc.hw rfl rfl)
    repeat' first
      | refine CO.cons rfl ?_
      | refine CO.nil ?_
      | refine CV.seq ?_
      | refine CV.region callees ?_
      | refine CV.cond ?_
      | refine CV.skip ?_
      | refine CV.ret ?_
      | (refine ⟨_, fun tm ha => step1_conv un72 un5 rfl (ev_tmp ha rfl), ?_⟩)
      | (refine ⟨_, fun tm ha => step1_conv un5 un3 rfl (ev_tmp ha rfl), ?_⟩)
      | (refine ⟨Value.int .u8 3, by kernel_rfl, ?_⟩)
      | (refine ⟨(⟨by decide, by decide⟩ : inI64 _), ?_⟩)
      | (refine ⟨fun _ => ?_, fun _ => ?_⟩ <;> first | (exfalso; omega) | skip)
      | fail
    exact ⟨rfl, ⟨_, rfl⟩, rfl⟩
  | 6, _, _ => 
    refine CV.enter callees false (Orc.hv rfl rfl) Try.func148 rfl (by kernel_rfl) (Nat.le_of_ble_eq_true rfl) hB ?_ (Orc.hw rfl rfl)
    repeat' first
      | refine CO.cons rfl ?_
      | refine CO.nil ?_
      | refine CV.seq ?_
      | refine CV.region callees ?_
      | refine CV.cond ?_
      | refine CV.skip ?_
      | refine CV.ret ?_
      | (refine ⟨_, fun tm ha => step1_conv un72 un5 rfl (ev_tmp ha rfl), ?_⟩)
      | (refine ⟨_, fun tm ha => step1_conv un5 un3 rfl (ev_tmp ha rfl), ?_⟩)
      | (refine ⟨Value.int .u8 3, by kernel_rfl, ?_⟩)
      | (refine ⟨(⟨by decide, by decide⟩ : inI64 _), ?_⟩)
      | (refine ⟨fun _ => ?_, fun _ => ?_⟩ <;> first | (exfalso; omega) | skip)
      | fail
    exact ⟨rfl, ⟨_, rfl⟩, rfl⟩
  | 7, _, _ => 
    refine CV.enter callees false (Orc.hv rfl rfl) Try.func148 rfl (by kernel_rfl) (Nat.le_of_ble_eq_true rfl) hB ?_ (Orc.hw rfl rfl)
    repeat' first
      | refine CO.cons rfl ?_
      | refine CO.nil ?_
      | refine CV.seq ?_
      | refine CV.region callees ?_
      | refine CV.cond ?_
      | refine CV.skip ?_
      | refine CV.ret ?_
      | (refine ⟨_, fun tm ha => step1_conv un72 un5 rfl (ev_tmp ha rfl), ?_⟩)
      | (refine ⟨_, fun tm ha => step1_conv un5 un3 rfl (ev_tmp ha rfl), ?_⟩)
      | (refine ⟨Value.int .u8 3, by kernel_rfl, ?_⟩)
      | (refine ⟨(⟨by decide, by decide⟩ : inI64 _), ?_⟩)
      | (refine ⟨fun _ => ?_, fun _ => ?_⟩ <;> first | (exfalso; omega) | skip)
      | fail
    exact ⟨rfl, ⟨_, rfl⟩, rfl⟩
  | 8, _, _ => 
    refine CV.enter callees false (Orc.hv rfl rfl) Try.func148 rfl (by kernel_rfl) (Nat.le_of_ble_eq_true rfl) hB ?_ (Orc.hw rfl rfl)
    repeat' first
      | refine CO.cons rfl ?_
      | refine CO.nil ?_
      | refine CV.seq ?_
      | refine CV.region callees ?_
      | refine CV.cond ?_
      | refine CV.skip ?_
      | refine CV.ret ?_
      | (refine ⟨_, fun tm ha => step1_conv un72 un5 rfl (ev_tmp ha rfl), ?_⟩)
      | (refine ⟨_, fun tm ha => step1_conv un5 un3 rfl (ev_tmp ha rfl), ?_⟩)
      | (refine ⟨Value.int .u8 4, by kernel_rfl, ?_⟩)
      | (refine ⟨(⟨by decide, by decide⟩ : inI64 _), ?_⟩)
      | (refine ⟨fun _ => ?_, fun _ => ?_⟩ <;> first | (exfalso; omega) | skip)
      | fail
    exact ⟨rfl, ⟨_, rfl⟩, rfl⟩
  | 9, _, _ => 
    refine CV.enter callees false (Orc.hv rfl rfl) Try.func148 rfl (by kernel_rfl) (Nat.le_of_ble_eq_true rfl) hB ?_ (Orc.hw rfl rfl)
    repeat' first
      | refine CO.cons rfl ?_
      | refine CO.nil ?_
      | refine CV.seq ?_
      | refine CV.region callees ?_
      | refine CV.cond ?_
      | refine CV.skip ?_
      | refine CV.ret ?_
      | (refine ⟨_, fun tm ha => step1_conv un72 un5 rfl (ev_tmp ha rfl), ?_⟩)
      | (refine ⟨_, fun tm ha => step1_conv un5 un3 rfl (ev_tmp ha rfl), ?_⟩)
      | (refine ⟨Value.int .u8 4, by kernel_rfl, ?_⟩)
      | (refine ⟨(⟨by decide, by decide⟩ : inI64 _), ?_⟩)
      | (refine ⟨fun _ => ?_, fun _ => ?_⟩ <;> first | (exfalso; omega) | skip)
      | fail
    exact ⟨rfl, ⟨_, rfl⟩, rfl⟩
set_option maxRecDepth 100000 in
theorem lenBits_spec [Orc] {B : Nat} {H : Heap} {n : Nat} (hB : B ≤ H.n) (h1 : 1 ≤ n) (h9 : n ≤ 9) :
    CallB Try.prog B 127 [.int .u64 (n : Int)] H (fun r H' => (∃ z, r = VI z) ∧ H' = H) := by
  refine CV.enter callees false (Orc.hv rfl rfl) Try.func127 rfl (by kernel_rfl) (Nat.le_of_ble_eq_true rfl) hB ?_ (Orc.hw rfl rfl)
  repeat' first
    | refine CO.cons rfl ?_
    | refine CO.nil ?_
    | refine CV.seq ?_
    | refine CV.region callees ?_
    | refine CV.cond ?_
    | refine CV.skip ?_
    | fail
  refine (len64_spec (by omega) h1 h9).mono ?_
  rintro r H' ⟨⟨z, rfl⟩, rfl⟩
  repeat' first
    | refine CO.cons rfl ?_
    | refine CO.nil ?_
    | refine CV.ret ?_
    | fail
  exact ⟨rfl, ⟨z, rfl⟩, rfl⟩
set_option maxRecDepth 100000 in
theorem pdq_spec [Orc] {B b c : Nat} {H : Heap} {l : List Int} {z : Int} (hB : B ≤ b) (hn : B ≤ H.n) (hbn : b < H.n) (hg : H.get b = some (.cells (l.map VI) 3 2)) (hl : l.length ≤ 12) (hl1 : 1 ≤ l.length) :
    CallB Try.prog B 126 [.slice (some ⟨b, 0, none⟩) l.length c, VI 0, VI l.length, VI z] H (fun r H' => ∃ R : List Int, R.Perm l ∧ Srt R l.length ∧ H'.get b = some (.cells (R.map VI) 3 2) ∧ H'.n = H.n ∧ ∀ d, d ≠ b → H'.get d = H.get d) := by
  refine CV.enter callees false (Orc.hv rfl rfl) Try.func126 rfl (by kernel_rfl) (Nat.le_of_ble_eq_true rfl) hn ?_ (Orc.hw rfl rfl)
  repeat' first
    | refine CO.cons rfl ?_
    | refine CO.nil ?_
    | refine CV.seq ?_
    | refine CV.region callees ?_
    | refine CV.block ?_
    | fail
  refine CV.loopc ?_
  refine WCv.rounds callees false (α := Nat) (fun i => [(0, .slice (some ⟨b, 0, none⟩) l.length c), (1, VI 0), (2, VI l.length)]) (fun i Hz => Hz = H) (fun i => i) (0) (by repeat' first | exact trivial | refine ⟨rfl, ?_⟩ | refine ⟨slot_int (by (try simp only [Int.toNat_natCast]); omega), ?_⟩) ?_ ?_
  · exact rfl
  rintro i Hx rfl hBx
  repeat' first
    | refine CO.cons rfl ?_
    | refine CO.nil ?_
    | refine CV.seq ?_
    | refine CV.region callees ?_
    | refine CV.cond ?_
    | refine CV.block ?_
    | refine ⟨(⟨by omega, by omega⟩ : inI64 _), ?_⟩
    | (refine ⟨fun _ => ?_, fun _ => ?_⟩ <;> first | (exfalso; omega) | skip)
    | fail
  refine (insert_spec hB hn hbn hg hl hl1).mono ?_
  rintro r H' h
  repeat' first
    | refine CO.nil ?_
    | refine CV.ret ?_
    | fail
  exact ⟨rfl, h⟩
set_option maxRecDepth 100000 in
theorem sort_spec [Orc] {B b c : Nat} {H : Heap} {l : List Int} (hB : B ≤ b) (hn : B ≤ H.n) (hbn : b < H.n) (hg : H.get b = some (.cells (l.map VI) 3 2)) (hl : l.length ≤ 9) (hl1 : 1 ≤ l.length) :
    CallB Try.prog B 91 [.slice (some ⟨b, 0, none⟩) l.length c] H (fun r H' => ∃ R : List Int, R.Perm l ∧ Srt R l.length ∧ H'.get b = some (.cells (R.map VI) 3 2) ∧ H'.n = H.n ∧ ∀ d, d ≠ b → H'.get d = H.get d) := by
  have hw : IntKind.wrap .u64 (l.length : Int) = l.length := wrapU (by omega) (by omega)
  refine CV.enter callees false (Orc.hv rfl rfl) Try.func91 rfl (by kernel_rfl) (Nat.le_of_ble_eq_true rfl) hn ?_ (Orc.hw rfl rfl)
  repeat' first
    | refine CO.cons rfl ?_
    | refine CO.nil ?_
    | refine CV.seq ?_
    | refine CV.region callees ?_
    | (refine ⟨_, sl_len, ?_⟩)
    | (refine ⟨_, fun tm ha => step1_conv un3 un106 rfl (ev_tmp ha rfl), ?_⟩)
    | fail
  rw [hw]
  refine (lenBits_spec hn hl1 hl).mono ?_
  rintro r H' ⟨⟨z, rfl⟩, rfl⟩
  repeat' first
    | refine CO.cons rfl ?_
    | fail
  refine (pdq_spec hB hn hbn hg (by omega) hl1).mono ?_
  rintro r H' h
  repeat' first
    | refine CO.nil ?_
    | fail
  exact ⟨rfl, h⟩
end Go.Proofs.Ytijimplcjaeneaa



/- Who may be the holder on a day: the pure part. -/
namespace Go.Proofs.Ytijimplcjaeneaa
open Go.AI
/-- Links that follow one another, for an owner who has the thing from a day on. -/
def ChainO (ls : List Lk) : Int → Int → List Int → Prop
  | _, _, [] => True
  | o, d, k :: t => (0 ≤ k ∧ k < ls.length) ∧ ls[k.toNat]!.f = o ∧ soon d ls[k.toNat]! ≤ ls[k.toNat]!.hi ∧ ChainO ls ls[k.toNat]!.t (soon d ls[k.toNat]!) t
theorem nodup_snoc {pre : List Int} {x : Int} (h : pre.Nodup) (hx : x ∉ pre) : (pre ++ [x]).Nodup := by
  rw [List.nodup_append]
  refine ⟨h, by simp, fun a ha b hb => ?_⟩
  rw [List.mem_singleton] at hb
  subst hb
  exact fun e => hx (e ▸ ha)
theorem growL_mem {ls : List Lk} : ∀ {r : Nat} {pre : List Int} {o d : Int} {x : List Int}, pre.Nodup → (x ∈ growL ls r pre o d ↔ ∃ t, x = pre ++ t ∧ t.length = r ∧ ChainO ls o d t ∧ (pre ++ t).Nodup)
  | 0, pre, o, d, x, hp => by
    simp only [growL, List.mem_singleton]
    constructor
    · rintro rfl
      exact ⟨[], by simp, rfl, trivial, by simpa using hp⟩
    · rintro ⟨t, rfl, ht, _, _⟩
      rw [List.length_eq_zero_iff.1 ht, List.append_nil]
  | r + 1, pre, o, d, x, hp => by
    simp only [growL, List.mem_flatMap, List.mem_range]
    constructor
    · rintro ⟨i, hi, hx⟩
      split at hx
      · rename_i ht
        simp only [takesB, Bool.and_eq_true, decide_eq_true_eq, Bool.not_eq_true', decide_eq_false_iff_not] at ht
        obtain ⟨h1, h2, h3⟩ := ht
        obtain ⟨t, rfl, ht2, ht3, ht4⟩ := (growL_mem (nodup_snoc hp h3)).1 hx
        refine ⟨(i : Int) :: t, by simp, by simp [ht2], ⟨⟨by omega, by omega⟩, h1, h2, ht3⟩, by simpa using ht4⟩
      · cases hx
    · rintro ⟨t, rfl, ht, hc, hn⟩
      cases t with
      | nil => simp at ht
      | cons k t =>
        obtain ⟨⟨h0, h1⟩, h2, h3, h4⟩ := hc
        have hkn : ((k.toNat : Nat) : Int) = k := by omega
        have hkp : k ∉ pre := fun hm => by
          rw [List.nodup_append] at hn
          exact hn.2.2 k hm k (List.mem_cons_self ..) rfl
        refine ⟨k.toNat, by omega, ?_⟩
        have : takesB ls pre o d k.toNat = true := by
          simp only [takesB, Bool.and_eq_true, decide_eq_true_eq, Bool.not_eq_true', decide_eq_false_iff_not, hkn]
          exact ⟨h2, h3, hkp⟩
        rw [if_pos this, hkn]
        exact (growL_mem (nodup_snoc hp hkp)).2 ⟨t, by simp, by simpa using ht, h4, by simpa using hn⟩
theorem ChainO.mem {ls : List Lk} : ∀ {t : List Int} {o d : Int}, ChainO ls o d t → ∀ k ∈ t, 0 ≤ k ∧ k < ls.length
  | [], _, _, _, k, hk => by simp at hk
  | x :: t, o, d, h, k, hk => by
    rcases List.mem_cons.1 hk with rfl | hk
    · exact h.1
    · exact ChainO.mem h.2.2.2 k hk
theorem orders_mem {mk lo : Int} {ls : List Lk} {o : List Int} : o ∈ ordersL mk lo ls ↔ o.length = ls.length ∧ ChainO ls mk lo o ∧ o.Nodup := by
  unfold ordersL
  rw [growL_mem (by simp)]
  constructor
  · rintro ⟨t, rfl, h1, h2, h3⟩
    exact ⟨by simpa using h1, by simpa using h2, by simpa using h3⟩
  · rintro ⟨h1, h2, h3⟩
    exact ⟨o, by simp, h1, h2, by simpa using h3⟩
/-- Each event later than the one before it. -/
def Incr : List Ev → Prop
  | [] => True
  | [_] => True
  | e :: f :: t => e.lo + 1 ≤ f.lo ∧ Incr (f :: t)
theorem upL_incr {ls : List Lk} : ∀ {t : List Int} {a : Ev}, Incr (a :: upL ls a.lo t)
  | [], _ => trivial
  | k :: t, a => ⟨by show a.lo + 1 ≤ max ls[k.toNat]!.lo (a.lo + 1); omega, upL_incr (ls := ls) (t := t) (a := ⟨k, ls[k.toNat]!.t, max ls[k.toNat]!.lo (a.lo + 1), ls[k.toNat]!.hi⟩)⟩
theorem upL_ok {ls : List Lk} : ∀ {t : List Int} {o p : Int}, ChainO ls o p t → ∀ e ∈ upL ls p t, e.lo ≤ e.hi
  | [], _, _, _, e, he => by simp [upL] at he
  | k :: t, o, p, h, e, he => by
    obtain ⟨_, _, h3, h4⟩ := h
    have hs : soon p ls[k.toNat]! = max ls[k.toNat]!.lo (p + 1) := by unfold soon; omega
    rw [hs] at h3 h4
    simp only [upL] at he
    rcases List.mem_cons.1 he with rfl | he
    · exact h3
    · exact upL_ok h4 e he
theorem upL_own {ls : List Lk} : ∀ {t : List Int} {p : Int}, ∀ e ∈ upL ls p t, ∃ k ∈ t, e.o = ls[k.toNat]!.t
  | [], _, e, he => by simp [upL] at he
  | k :: t, p, e, he => by
    simp only [upL] at he
    rcases List.mem_cons.1 he with rfl | he
    · exact ⟨k, List.mem_cons_self .., rfl⟩
    · obtain ⟨q, hq, h⟩ := upL_own e he
      exact ⟨q, List.mem_cons_of_mem _ hq, h⟩
theorem downL_head {e f : Ev} {t : List Ev} : ∃ h r, downL (f :: t) = ⟨f.k, f.o, f.lo, h⟩ :: r := by
  unfold downL
  cases downL t with
  | nil => exact ⟨f.hi, [], rfl⟩
  | cons g r => exact ⟨_, _, rfl⟩
theorem downL_ok : ∀ {E : List Ev}, Incr E → (∀ e ∈ E, e.lo ≤ e.hi) → ∀ e ∈ downL E, e.lo ≤ e.hi
  | [], _, _, e, he => by simp [downL] at he
  | [a], _, h, e, he => h e (by simpa [downL] using he)
  | a :: f :: t, hi, h, e, he => by
    have ih := downL_ok (E := f :: t) hi.2 fun x hx => h x (List.mem_cons_of_mem _ hx)
    obtain ⟨hh, r, hd⟩ := downL_head (e := a) (f := f) (t := t)
    have hu : downL (a :: f :: t) = ⟨a.k, a.o, a.lo, min a.hi (hh - 1)⟩ :: downL (f :: t) := by
      rw [downL, hd]
    rw [hu] at he
    rcases List.mem_cons.1 he with rfl | he
    · have h1 := ih ⟨f.k, f.o, f.lo, hh⟩ (by rw [hd]; exact List.mem_cons_self ..)
      have h2 := h a (List.mem_cons_self ..)
      have h3 := hi.1
      simp only at h1 ⊢
      omega
    · exact ih e he
theorem downL_own : ∀ {E : List Ev}, (downL E).map (·.o) = E.map (·.o)
  | [] => rfl
  | e :: t => by
    have ih := downL_own (E := t)
    unfold downL
    cases hd : downL t with
    | nil => rw [hd] at ih; simp at ih ⊢; exact ih
    | cons f r => rw [hd] at ih; simp at ih ⊢; exact ih
theorem evs_ok {mk lo hi : Int} {ls : List Lk} {o : List Int} (h : lo ≤ hi) (hc : ChainO ls mk lo o) : ∀ e ∈ evsL mk lo hi ls o, e.lo ≤ e.hi := by
  refine downL_ok (upL_incr (a := ⟨-1, mk, lo, hi⟩)) fun e he => ?_
  rcases List.mem_cons.1 he with rfl | he
  · exact h
  · exact upL_ok hc e he
theorem evs_own {mk lo hi : Int} {ls : List Lk} {o : List Int} {e : Ev} (he : e ∈ evsL mk lo hi ls o) : e.o = mk ∨ ∃ k ∈ o, e.o = ls[k.toNat]!.t := by
  have h1 : e.o ∈ (evsL mk lo hi ls o).map (·.o) := List.mem_map_of_mem he
  rw [evsL, downL_own] at h1
  obtain ⟨f, hf, h2⟩ := List.mem_map.1 h1
  rw [← h2]
  rcases List.mem_cons.1 hf with rfl | hf
  · exact .inl rfl
  · exact .inr (upL_own f hf)
theorem addK_mem {ks : List Int} {h x : Int} : x ∈ addK ks h ↔ x ∈ ks ∨ x = h := by
  unfold addK
  split
  · rename_i hm
    exact ⟨.inl, fun hx => hx.elim id fun e => e ▸ hm⟩
  · simp
theorem addK_nodup {ks : List Int} {h : Int} (hn : ks.Nodup) : (addK ks h).Nodup := by
  unfold addK
  split
  · exact hn
  · rename_i hm; exact nodup_snoc hn hm
theorem gathK_nodup {d : Int} : ∀ {E : List Ev} {ks : List Int} {h : Int}, ks.Nodup → (gathK d ks h E).Nodup
  | [], ks, h, hn => addK_nodup hn
  | e :: t, ks, h, hn => by
    have h1 : (if d < e.hi then addK ks h else ks).Nodup := by
      split
      · exact addK_nodup hn
      · exact hn
    simp only [gathK]
    split
    · exact h1
    · exact gathK_nodup h1
theorem gathK_mem {d : Int} : ∀ {E : List Ev} {ks : List Int} {h x : Int}, x ∈ gathK d ks h E ↔ x ∈ ks ∨ x ∈ gathK d [] h E
  | [], ks, h, x => by
    simp only [gathK, addK_mem]
    simp
  | e :: t, ks, h, x => by
    simp only [gathK]
    by_cases c1 : d < e.hi
    · by_cases c2 : d < e.lo
      · simp only [if_pos c1, if_pos c2, addK_mem]; simp
      · simp only [if_pos c1, if_neg c2]
        rw [gathK_mem (ks := addK ks h), gathK_mem (ks := addK [] h), addK_mem, addK_mem]
        simp [or_assoc]
    · by_cases c2 : d < e.lo
      · simp only [if_neg c1, if_pos c2]; simp
      · simp only [if_neg c1, if_neg c2]
        rw [gathK_mem]
theorem gathK_from {d : Int} : ∀ {E : List Ev} {h x : Int}, x ∈ gathK d [] h E → x = h ∨ ∃ e ∈ E, x = e.o
  | [], h, x, hx => by simp only [gathK, addK_mem] at hx; simpa using hx
  | e :: t, h, x, hx => by
    simp only [gathK] at hx
    have h1 : ∀ y, y ∈ (if d < e.hi then addK [] h else []) → y = h := fun y hy => by
      split at hy
      · rw [addK_mem] at hy; simpa using hy
      · simp at hy
    split at hx
    · exact .inl (h1 x hx)
    · rw [gathK_mem] at hx
      rcases hx with hx | hx
      · exact .inl (h1 x hx)
      · rcases gathK_from hx with rfl | ⟨f, hf, rfl⟩
        · exact .inr ⟨e, List.mem_cons_self .., rfl⟩
        · exact .inr ⟨f, List.mem_cons_of_mem _ hf, rfl⟩
theorem gathK_some {d : Int} : ∀ {E : List Ev} {h : Int}, (∀ e ∈ E, e.lo ≤ e.hi) → ∃ x, x ∈ gathK d [] h E
  | [], h, _ => ⟨h, by simp [gathK, addK_mem]⟩
  | e :: t, h, hE => by
    have h1 := hE e (List.mem_cons_self ..)
    simp only [gathK]
    by_cases c2 : d < e.lo
    · rw [if_pos c2, if_pos (by omega)]
      exact ⟨h, by simp [addK_mem]⟩
    · rw [if_neg c2]
      obtain ⟨x, hx⟩ := gathK_some (d := d) (E := t) (h := e.o) fun f hf => hE f (List.mem_cons_of_mem _ hf)
      exact ⟨x, gathK_mem.2 (.inr hx)⟩
/-- All holders, as they are gathered. -/
def keysF (mk lo hi : Int) (ls : List Lk) (d : Int) (S : List (List Int)) : List Int := S.foldl (fun ks o => gathK d ks (-1) (evsL mk lo hi ls o)) []
theorem keysF_snoc {mk lo hi : Int} {ls : List Lk} {d : Int} {S : List (List Int)} {o : List Int} : keysF mk lo hi ls d (S ++ [o]) = gathK d (keysF mk lo hi ls d S) (-1) (evsL mk lo hi ls o) := by
  unfold keysF
  rw [List.foldl_append]
  rfl
theorem foldl_mem {mk lo hi : Int} {ls : List Lk} {d x : Int} : ∀ {S : List (List Int)} {ks : List Int}, x ∈ S.foldl (fun ks o => gathK d ks (-1) (evsL mk lo hi ls o)) ks ↔ x ∈ ks ∨ ∃ o ∈ S, x ∈ gathK d [] (-1) (evsL mk lo hi ls o)
  | [], ks => by simp
  | o :: S, ks => by
    rw [List.foldl_cons, foldl_mem, gathK_mem]
    simp [or_assoc]
theorem keysF_mem {mk lo hi : Int} {ls : List Lk} {d x : Int} {S : List (List Int)} : x ∈ keysF mk lo hi ls d S ↔ ∃ o ∈ S, x ∈ gathK d [] (-1) (evsL mk lo hi ls o) := by
  unfold keysF
  rw [foldl_mem]
  simp
theorem foldl_nodup {mk lo hi : Int} {ls : List Lk} {d : Int} : ∀ {S : List (List Int)} {ks : List Int}, ks.Nodup → (S.foldl (fun ks o => gathK d ks (-1) (evsL mk lo hi ls o)) ks).Nodup
  | [], ks, h => h
  | o :: S, ks, h => foldl_nodup (S := S) (gathK_nodup h)
theorem keysF_nodup {mk lo hi : Int} {ls : List Lk} {d : Int} {S : List (List Int)} : (keysF mk lo hi ls d S).Nodup := foldl_nodup (by simp)
/-- Who may be the holder on a day, ascending. -/
def hoL (mk lo hi : Int) (ls : List Lk) (d : Int) : List Int := ((List.range 21).map fun (i : Nat) => (i : Int) - 1).filter fun h => decide (h ∈ keysF mk lo hi ls d (ordersL mk lo ls))
theorem sorted_eq : ∀ {a b : List Int}, a.Pairwise (· < ·) → b.Pairwise (· < ·) → (∀ x, x ∈ a ↔ x ∈ b) → a = b
  | [], [], _, _, _ => rfl
  | [], y :: b, _, _, h => by have := (h y).2 (List.mem_cons_self ..); simp at this
  | x :: a, [], _, _, h => by have := (h x).1 (List.mem_cons_self ..); simp at this
  | x :: a, y :: b, ha, hb, h => by
    rw [List.pairwise_cons] at ha hb
    have hxy : x = y := by
      rcases List.mem_cons.1 ((h x).1 (List.mem_cons_self ..)) with e | e
      · exact e
      · rcases List.mem_cons.1 ((h y).2 (List.mem_cons_self ..)) with f | f
        · exact f.symm
        · have := hb.1 x e
          have := ha.1 y f
          omega
    subst hxy
    congr 1
    refine sorted_eq ha.2 hb.2 fun z => ?_
    constructor
    · intro hz
      rcases List.mem_cons.1 ((h z).1 (List.mem_cons_of_mem _ hz)) with e | e
      · have := ha.1 z hz; omega
      · exact e
    · intro hz
      rcases List.mem_cons.1 ((h z).2 (List.mem_cons_of_mem _ hz)) with e | e
      · have := hb.1 z hz; omega
      · exact e
theorem hoL_sorted {mk lo hi : Int} {ls : List Lk} {d : Int} : (hoL mk lo hi ls d).Pairwise (· < ·) := by
  unfold hoL
  refine List.Pairwise.filter _ ?_
  rw [List.pairwise_map]
  exact List.pairwise_lt_range.imp fun h => by omega
theorem keys_bd {mk lo hi : Int} {ls : List Lk} {d x : Int} (hc : chkC mk lo hi ls = 0) (hx : x ∈ keysF mk lo hi ls d (ordersL mk lo ls)) : (x = -1 ∨ x = mk ∨ x ∈ ls.map (·.t)) ∧ -1 ≤ x ∧ x ≤ 19 := by
  obtain ⟨o, ho, hx⟩ := keysF_mem.1 hx
  obtain ⟨h1, h2, h3⟩ := orders_mem.1 ho
  unfold chkC at hc
  cases c1 : inB mk 0 19 with
  | false => rw [c1, cond_false] at hc; cases hc
  | true =>
    rw [c1, cond_true] at hc
    simp only [inB, Bool.and_eq_true, decide_eq_true_eq] at c1
    by_cases c2 : spanE lo hi 0 100000 = 0
    · rw [if_pos c2] at hc
      by_cases c3 : 7 < ls.length
      · rw [if_pos c3] at hc; cases hc
      · rw [if_neg c3] at hc
        by_cases c4 : linksE ls = 0
        · rcases gathK_from hx with rfl | ⟨e, he, rfl⟩
          · exact ⟨.inl rfl, by omega, by omega⟩
          · rcases evs_own he with e1 | ⟨k, hk, e1⟩
            · rw [e1]; exact ⟨.inr (.inl rfl), by omega, by omega⟩
            · have hkb := h2.mem k hk
              have hkn : k.toNat < ls.length := by omega
              have hm : ls[k.toNat]! ∈ ls := by rw [getElem!_pos ls _ hkn]; exact List.getElem_mem _
              have hb := linkE_bd (linksE_all c4 _ hm)
              rw [e1]
              exact ⟨.inr (.inr (List.mem_map_of_mem hm)), by omega, by omega⟩
        · rw [if_neg c4] at hc; exact absurd hc c4
    · rw [if_neg c2] at hc; exact absurd hc c2
structure ChOk (mk lo hi : Int) (ls : List Lk) : Prop where
  m0 : 0 ≤ mk
  m1 : mk ≤ 19
  l0 : 0 ≤ lo
  l1 : lo ≤ hi
  h1 : hi ≤ 100000
  ok : LsOk ls
  e : linksE ls = 0
  s : ordersL mk lo ls ≠ []
theorem chOk_of {mk lo hi : Int} {ls : List Lk} (hc : chkC mk lo hi ls = 0) : ChOk mk lo hi ls := by
  unfold chkC at hc
  cases c1 : inB mk 0 19 with
  | false => rw [c1, cond_false] at hc; cases hc
  | true =>
    rw [c1, cond_true] at hc
    simp only [inB, Bool.and_eq_true, decide_eq_true_eq] at c1
    by_cases c2 : spanE lo hi 0 100000 = 0
    · rw [if_pos c2] at hc
      have hb := spanE_bd c2
      by_cases c3 : 7 < ls.length
      · rw [if_pos c3] at hc; cases hc
      · rw [if_neg c3] at hc
        by_cases c4 : linksE ls = 0
        · rw [if_pos c4] at hc
          refine ⟨c1.1, c1.2, hb.1, by omega, by omega, lsOk_of (by omega) c4, c4, fun h => ?_⟩
          rw [h] at hc; cases hc
        · rw [if_neg c4] at hc; exact absurd hc c4
    · rw [if_neg c2] at hc; exact absurd hc c2
theorem keys_len {mk lo hi : Int} {ls : List Lk} {d : Int} (hc : chkC mk lo hi ls = 0) : 1 ≤ (keysF mk lo hi ls d (ordersL mk lo ls)).length ∧ (keysF mk lo hi ls d (ordersL mk lo ls)).length ≤ 9 := by
  have hk := chOk_of hc
  constructor
  · cases ho : ordersL mk lo ls with
    | nil => exact absurd ho hk.s
    | cons o t =>
      have hom : o ∈ ordersL mk lo ls := by rw [ho]; exact List.mem_cons_self ..
      obtain ⟨x, hx⟩ := gathK_some (d := d) (h := -1) (evs_ok hk.l1 (orders_mem.1 hom).2.1)
      exact List.length_pos_of_mem (keysF_mem.2 ⟨o, List.mem_cons_self .., hx⟩)
  · have := List.Nodup.length_le_of_subset (l₁ := keysF mk lo hi ls d (ordersL mk lo ls)) (l₂ := -1 :: mk :: ls.map (·.t)) keysF_nodup fun x hx => by
      rcases (keys_bd hc hx).1 with rfl | rfl | h
      · simp
      · simp
      · exact List.mem_cons_of_mem _ (List.mem_cons_of_mem _ h)
    have := hk.ok.n
    simp at *
    omega
theorem hoL_of {mk lo hi : Int} {ls : List Lk} {d : Int} {R : List Int} (hc : chkC mk lo hi ls = 0) (hp : R.Perm (keysF mk lo hi ls d (ordersL mk lo ls))) (hs : Srt R (keysF mk lo hi ls d (ordersL mk lo ls)).length) : R = hoL mk lo hi ls d := by
  have hn : R.Nodup := (hp.nodup_iff).2 keysF_nodup
  refine sorted_eq ?_ hoL_sorted fun x => ?_
  · rw [List.pairwise_iff_getElem]
    intro i j hi' hj' hij
    have h1 := hs i j hij (by rw [← hp.length_eq]; exact hj')
    rw [getElem!_pos R i hi', getElem!_pos R j hj'] at h1
    have h2 : R[i] ≠ R[j] := fun e => by
      have := (List.nodup_iff_pairwise_ne.1 hn)
      rw [List.pairwise_iff_getElem] at this
      exact this i j hi' hj' hij e
    omega
  · rw [hp.mem_iff]
    unfold hoL
    rw [List.mem_filter]
    simp only [decide_eq_true_eq, List.mem_map, List.mem_range]
    constructor
    · intro hx
      obtain ⟨_, h1, h2⟩ := keys_bd hc hx
      exact ⟨⟨(x + 1).toNat, by omega, by omega⟩, hx⟩
    · exact fun h => h.2
end Go.Proofs.Ytijimplcjaeneaa

