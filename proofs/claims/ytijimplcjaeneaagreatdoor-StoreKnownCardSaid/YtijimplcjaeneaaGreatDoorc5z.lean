
/- eventsOf. -/
import Derived.Test.YtijimplcjaeneaaGreatDoorc4z
set_option linter.unusedVariables false
set_option linter.unusedSimpArgs false
namespace Go.Proofs.YtijimplcjaeneaaGreatDoor
open Go.AI
theorem one_at {α : Type} [Inhabited α] {l : List α} {i : Nat} (h : i < l.length) : l.take (i + 1) = l.take i ++ [l[i]!] := by
  rw [List.take_add_one, List.getElem?_eq_getElem h, getElem!_pos l i h]; rfl
theorem ev_set {l : List Ev} {j : Nat} {x : Int} (hj : j < l.length) : (l.map Evl).flatten.set (j * 4 + 3) (VI x) = ((l.set j ⟨l[j]!.k, l[j]!.o, l[j]!.lo, x⟩).map Evl).flatten := by
  rw [flat_set evRows (ev_at hj) (by decide), List.map_set]
  rfl
set_option maxHeartbeats 16000000 in
set_option maxRecDepth 100000 in
theorem eventsOf_spec [Orc] {B : Nat} {H : Heap} {mk lo hh : Int} {sv ov : Value} {ls : List Lk} {o : List Int} (hB : B ≤ H.n) (hr : RowS 4 H sv (ls.map Lkl)) (hls : LsOk ls) (ho : Ints H ov o) (hon : o.length ≤ 7) (hok : ∀ k ∈ o, 0 ≤ k ∧ k < ls.length) (h0 : 0 ≤ lo) (h1 : lo ≤ 100000) (h2 : 0 ≤ hh) (h3 : hh ≤ 100000) :
    CallB Tryz.prog B 57 [Chv mk lo hh sv, ov] H (fun v H' => OwnE H' v (evsL mk lo hh ls o) H.n ∧ Keep H H') := by
  refine CV.enter callees false (Orc.hv rfl rfl) Tryz.func57 rfl (by kernel_rfl) (Nat.le_of_ble_eq_true rfl) hB ?_ (Orc.hw rfl rfl)
  repeat' first
    | refine CO.cons rfl ?_
    | refine CO.nil ?_
    | refine CV.seq ?_
    | refine CV.region callees ?_
    | refine CV.cond ?_
    | refine CV.block ?_
    | refine CV.skip ?_
    | refine CV.exit ?_
    | refine CV.ret ?_
    | refine CV.scope ?_
    | refine CV.draw callees (by decide +kernel) ?_
    | refine CH.cons rfl ?_
    | refine CH.nil ?_
    | refine CO.consG rfl ?_
    | refine CH.consG rfl ?_
    | refine CG.cons rfl ?_
    | refine CR.cons ?_
    | refine CR.nil ?_
    | refine CG.nil ?_
    | refine CG.consG rfl ?_
    | refine ⟨(rfl : plain _ = true), ?_⟩
    | refine ⟨(rfl : nilOk _ = some _), ?_⟩
    | refine ⟨_, ints_len (by assumption), ?_⟩
    | refine ⟨_, ints_addr (by assumption) (by omega) (by omega), ?_⟩
    | refine ⟨_, ints_load (by assumption) (by omega) (by omega), ?_⟩
    | refine ⟨(⟨by omega, by omega⟩ : inI64 _), ?_⟩
    | refine ⟨_, fun tm ha => step1_max rfl (ev_tmp ha rfl) (ev_tmp ha rfl), ?_⟩
    | refine ⟨_, fun tm ha => step1_min rfl (ev_tmp ha rfl) (ev_tmp ha rfl), ?_⟩
    | (refine ⟨fun _ => ?_, fun _ => ?_⟩ <;> first | (exfalso; omega) | skip)
    | fail
  refine ⟨(by simp only [notTuple]), ?_⟩
  rw [boxCh hr.cells.1]
  generalize hs0 : Heap.new H _ = H0
  have hg0 := new_get hs0
  have k0 := new_keep hs0
  have n0 := new_n hs0
  obtain ⟨b0, hbn0⟩ : ∃ b, Heap.n H = b := ⟨_, rfl⟩
  rw [hbn0] at hg0 n0 ⊢
  have ho0 := ho.keep k0
  repeat' first
    | refine CO.cons rfl ?_
    | refine CO.nil ?_
    | refine CV.seq ?_
    | refine CV.region callees ?_
    | refine CV.cond ?_
    | refine CV.block ?_
    | refine CV.skip ?_
    | refine CV.exit ?_
    | refine CV.ret ?_
    | refine CV.scope ?_
    | refine CV.draw callees (by decide +kernel) ?_
    | refine CH.cons rfl ?_
    | refine CH.nil ?_
    | refine CO.consG rfl ?_
    | refine CH.consG rfl ?_
    | refine CG.cons rfl ?_
    | refine CR.cons ?_
    | refine CR.nil ?_
    | refine CG.nil ?_
    | refine CG.consG rfl ?_
    | refine ⟨(rfl : plain _ = true), ?_⟩
    | refine ⟨(rfl : nilOk _ = some _), ?_⟩
    | refine ⟨_, ints_len (by assumption), ?_⟩
    | refine ⟨_, ints_addr (by assumption) (by omega) (by omega), ?_⟩
    | refine ⟨_, ints_load (by assumption) (by omega) (by omega), ?_⟩
    | refine ⟨(⟨by omega, by omega⟩ : inI64 _), ?_⟩
    | refine ⟨_, fun tm ha => step1_max rfl (ev_tmp ha rfl) (ev_tmp ha rfl), ?_⟩
    | refine ⟨_, fun tm ha => step1_min rfl (ev_tmp ha rfl) (ev_tmp ha rfl), ?_⟩
    | (refine ⟨_, fS foC0 (by decide), ?_⟩)
    | (refine ⟨_, fS foC1 (by decide), ?_⟩)
    | (refine ⟨_, cell_load ag3 hg0 rfl, ?_⟩)
    | (refine ⟨_, ldChS hg0, ?_⟩)
    | (refine ⟨_, buEv, ?_⟩)
    | (refine ⟨_, _, evOne, ?_⟩)
    | (refine ⟨fun _ => ?_, fun _ => ?_⟩ <;> first | (exfalso; omega) | skip)
    | fail
  generalize hs1 : Heap.new H0 _ = H1
  have hg1 := new_get hs1
  have k1 := new_keep hs1
  have n1 := new_n hs1
  obtain ⟨b1, hbn1⟩ : ∃ b, Heap.n H0 = b := ⟨_, rfl⟩
  rw [hbn1] at hg1 n1 ⊢
  have hc1 := (k1.2 b0 (by omega)).trans hg0
  have ho1 := ho0.keep k1
  repeat' first
    | refine CO.cons rfl ?_
    | refine CO.nil ?_
    | refine CV.seq ?_
    | refine CV.region callees ?_
    | refine CV.cond ?_
    | refine CV.block ?_
    | refine CV.skip ?_
    | refine CV.exit ?_
    | refine CV.ret ?_
    | refine CV.scope ?_
    | refine CV.draw callees (by decide +kernel) ?_
    | refine CH.cons rfl ?_
    | refine CH.nil ?_
    | refine CO.consG rfl ?_
    | refine CH.consG rfl ?_
    | refine CG.cons rfl ?_
    | refine CR.cons ?_
    | refine CR.nil ?_
    | refine CG.nil ?_
    | refine CG.consG rfl ?_
    | refine ⟨(rfl : plain _ = true), ?_⟩
    | refine ⟨(rfl : nilOk _ = some _), ?_⟩
    | refine ⟨_, ints_len (by assumption), ?_⟩
    | refine ⟨_, ints_addr (by assumption) (by omega) (by omega), ?_⟩
    | refine ⟨_, ints_load (by assumption) (by omega) (by omega), ?_⟩
    | refine ⟨(⟨by omega, by omega⟩ : inI64 _), ?_⟩
    | refine ⟨_, fun tm ha => step1_max rfl (ev_tmp ha rfl) (ev_tmp ha rfl), ?_⟩
    | refine ⟨_, fun tm ha => step1_min rfl (ev_tmp ha rfl) (ev_tmp ha rfl), ?_⟩
    | (refine ⟨fun _ => ?_, fun _ => ?_⟩ <;> first | (exfalso; omega) | skip)
    | fail
  refine CV.loopc ?_
  refine WCv.rounds callees false (α := Nat × Nat) (fun (i, be) => [(2, .pointer (some ⟨b0, 0, none⟩)), (5, .slice (some ⟨be, 0, none⟩) (i + 1) 0), (18, ov), (19, VI o.length), (20, VI i)]) (fun (i, be) Hz => i ≤ o.length ∧ Hz.get b0 = some (.cells (Chl mk lo hh sv) 26 1) ∧ Hz.get be = some (.cells ((evs0 mk lo hh ls (o.take i)).map Evl).flatten 125 2) ∧ Keep H Hz ∧ H.n < be ∧ be < Hz.n) (fun (i, be) => o.length - i) (0, b1) (by repeat' first | exact trivial | refine ⟨rfl, ?_⟩ | refine ⟨slot_int (by (try simp only [Int.toNat_natCast]); omega), ?_⟩) ?_ ?_
  · exact ⟨by omega, hc1, hg1, k0.trans k1, by omega, by omega⟩
  clear hc1 ho1 ho0 hg0 hg1
  rintro ⟨i, be⟩ Hx ⟨hi, hcx, hgx, kx, lb, lx⟩ hBx
  have lbx := kx.1
  have hrx := hr.keep kx
  have hox : Ints Hx ov o := Row.keep ho kx
  have hEl : (evs0 mk lo hh ls (o.take i)).length = i + 1 := by rw [evs0_len, List.length_take]; omega
  by_cases hi2 : i < o.length
  · have hki : o[(i : Int).toNat]! = o[i]! := rfl
    have hkm : o[i]! ∈ o := by rw [getElem!_pos o i hi2]; exact List.getElem_mem _
    have hkb := hok _ hkm
    obtain ⟨k, hk⟩ : ∃ k, o[i]! = k := ⟨_, rfl⟩
    rw [hk] at hki hkb
    have hkn : k.toNat < ls.length := by omega
    have hbd := evs0_bd (mk := mk) (lo := lo) (hi := hh) hls (o := o.take i) (fun k hk' => hok k (List.mem_of_mem_take hk')) h0 h1 h2 h3 i (by omega)
    have hlo := hls.lo _ hkn
    have hhi := hls.hi _ hkn
    obtain ⟨x, hx⟩ : ∃ x, ls[k.toNat]! = x := ⟨_, rfl⟩
    repeat' first
      | refine CO.cons rfl ?_
      | refine CO.nil ?_
      | refine CV.seq ?_
      | refine CV.region callees ?_
      | refine CV.cond ?_
      | refine CV.block ?_
      | refine CV.skip ?_
      | refine CV.exit ?_
      | refine CV.ret ?_
      | refine CV.scope ?_
      | refine CV.draw callees (by decide +kernel) ?_
      | refine CH.cons rfl ?_
      | refine CH.nil ?_
      | refine CO.consG rfl ?_
      | refine CH.consG rfl ?_
      | refine CG.cons rfl ?_
      | refine CR.cons ?_
      | refine CR.nil ?_
      | refine CG.nil ?_
      | refine CG.consG rfl ?_
      | refine ⟨(rfl : plain _ = true), ?_⟩
      | refine ⟨(rfl : nilOk _ = some _), ?_⟩
      | refine ⟨_, ints_len (by assumption), ?_⟩
      | refine ⟨_, ints_addr (by assumption) (by omega) (by omega), ?_⟩
      | refine ⟨_, ints_load (by assumption) (by omega) (by omega), ?_⟩
      | refine ⟨(⟨by omega, by omega⟩ : inI64 _), ?_⟩
      | refine ⟨_, fun tm ha => step1_max rfl (ev_tmp ha rfl) (ev_tmp ha rfl), ?_⟩
      | refine ⟨_, fun tm ha => step1_min rfl (ev_tmp ha rfl) (ev_tmp ha rfl), ?_⟩
      | (rw [hki])
      | (refine ⟨_, fS foC2 (by decide), ?_⟩)
      | (refine ⟨_, cell_load agLs hcx rfl, ?_⟩)
      | (refine ⟨_, ls_addr hrx (by omega) (by omega), ?_⟩)
      | (refine ⟨_, ls_load hrx hkn, ?_⟩)
      | (refine ⟨_, _, alLk, ?_⟩)
      | (refine ⟨fun _ => ?_, fun _ => ?_⟩ <;> first | (exfalso; omega) | skip)
      | fail
    generalize hs4 : Heap.new Hx _ = H4
    have hg4 := new_get hs4
    have k4 := new_keep hs4
    have n4 := new_n hs4
    obtain ⟨b4, hbn4⟩ : ∃ b, Heap.n Hx = b := ⟨_, rfl⟩
    rw [hbn4] at hg4 n4 ⊢
    rw [hx] at hlo hhi
    repeat' first
      | refine CO.cons rfl ?_
      | refine CO.nil ?_
      | refine CV.seq ?_
      | refine CV.region callees ?_
      | refine CV.cond ?_
      | refine CV.block ?_
      | refine CV.skip ?_
      | refine CV.exit ?_
      | refine CV.ret ?_
      | refine CV.scope ?_
      | refine CV.draw callees (by decide +kernel) ?_
      | refine CH.cons rfl ?_
      | refine CH.nil ?_
      | refine CO.consG rfl ?_
      | refine CH.consG rfl ?_
      | refine CG.cons rfl ?_
      | refine CR.cons ?_
      | refine CR.nil ?_
      | refine CG.nil ?_
      | refine CG.consG rfl ?_
      | refine ⟨(rfl : plain _ = true), ?_⟩
      | refine ⟨(rfl : nilOk _ = some _), ?_⟩
      | refine ⟨_, ints_len (by assumption), ?_⟩
      | refine ⟨_, ints_addr (by assumption) (by omega) (by omega), ?_⟩
      | refine ⟨_, ints_load (by assumption) (by omega) (by omega), ?_⟩
      | refine ⟨(⟨by omega, by omega⟩ : inI64 _), ?_⟩
      | refine ⟨_, fun tm ha => step1_max rfl (ev_tmp ha rfl) (ev_tmp ha rfl), ?_⟩
      | refine ⟨_, fun tm ha => step1_min rfl (ev_tmp ha rfl) (ev_tmp ha rfl), ?_⟩
      | (refine ⟨fun _ => ?_, fun _ => ?_⟩ <;> first | (exfalso; omega) | skip)
      | fail
    refine ⟨_, _, stLk hg4, by omega, ?_⟩
    rw [hx]
    generalize hs5 : Heap.set H4 b4 _ = H5
    have hg5 : H5.get b4 = some (.cells (Lkl x) 46 1) := set_get hs5
    have n5 := set_n hs5
    have o5 := set_old hs5
    have k5 : Keep Hx H5 := keep_put k4 (by omega) o5 n5
    have hc5 := (k5.2 b0 (by omega)).trans hcx
    have hg5' := (k5.2 be (by omega)).trans hgx
    have hix : (((i + 1 : Nat) : Int) - 1).toNat = i := by omega
    have hcell : ((evs0 mk lo hh ls (o.take i)).map Evl).flatten[(((i + 1 : Nat) : Int) - 1).toNat * 4 + 2 + 0]? = some (VI (evs0 mk lo hh ls (o.take i))[i]!.lo) := by
      rw [hix]; exact ev_cell (by omega) rfl
    obtain ⟨E, hE⟩ : ∃ E, evs0 mk lo hh ls (o.take i) = E := ⟨_, rfl⟩
    have hsn : evs0 mk lo hh ls (o.take (i + 1)) = E ++ [⟨k, x.t, max x.lo (E[i]!.lo + 1), x.hi⟩] := by
      rw [one_at hi2, hk, ← hE]
      have := upL_snoc (ls := ls) (k := k) (t := o.take i) (a := ⟨-1, mk, lo, hh⟩)
      rw [List.length_take, Nat.min_eq_left hi, hx] at this
      exact this
    rw [hE] at hEl hbd hg5' hcell
    have hOwn : OwnE H5 (.slice (some ⟨be, 0, none⟩) (i + 1) 0) E H.n := ⟨evRows, .inr ⟨be, by rw [List.length_map, hEl], by omega, by omega, hg5'⟩⟩
    repeat' first
      | refine CO.cons rfl ?_
      | refine CO.nil ?_
      | refine CV.seq ?_
      | refine CV.region callees ?_
      | refine CV.cond ?_
      | refine CV.block ?_
      | refine CV.skip ?_
      | refine CV.exit ?_
      | refine CV.ret ?_
      | refine CV.scope ?_
      | refine CV.draw callees (by decide +kernel) ?_
      | refine CH.cons rfl ?_
      | refine CH.nil ?_
      | refine CO.consG rfl ?_
      | refine CH.consG rfl ?_
      | refine CG.cons rfl ?_
      | refine CR.cons ?_
      | refine CR.nil ?_
      | refine CG.nil ?_
      | refine CG.consG rfl ?_
      | refine ⟨(rfl : plain _ = true), ?_⟩
      | refine ⟨(rfl : nilOk _ = some _), ?_⟩
      | refine ⟨_, ints_len (by assumption), ?_⟩
      | refine ⟨_, ints_addr (by assumption) (by omega) (by omega), ?_⟩
      | refine ⟨_, ints_load (by assumption) (by omega) (by omega), ?_⟩
      | refine ⟨(⟨by omega, by omega⟩ : inI64 _), ?_⟩
      | refine ⟨_, fun tm ha => step1_max rfl (ev_tmp ha rfl) (ev_tmp ha rfl), ?_⟩
      | refine ⟨_, fun tm ha => step1_min rfl (ev_tmp ha rfl) (ev_tmp ha rfl), ?_⟩
      | (refine ⟨_, fS foL2 (by decide), ?_⟩)
      | (refine ⟨_, fS foS0 (by decide), ?_⟩)
      | (refine ⟨_, cell_load ag3 hg5 rfl, ?_⟩)
      | (refine ⟨_, ev_sl, ?_⟩)
      | (refine ⟨_, ev_adr (by omega) (by omega), ?_⟩)
      | (refine ⟨_, fS foE2 (by decide), ?_⟩)
      | (refine ⟨_, cell_load ag3 hg5' hcell, ?_⟩)
      | (refine ⟨_, fS foL1 (by decide), ?_⟩)
      | (refine ⟨_, fS foS1 (by decide), ?_⟩)
      | (refine ⟨_, buSp, ?_⟩)
      | (refine ⟨_, buEv, ?_⟩)
      | (refine ⟨_, _, evOne, ?_⟩)
      | (refine ⟨fun _ => ?_, fun _ => ?_⟩ <;> first | (exfalso; omega) | skip)
      | fail
    refine evPush hOwn (by omega) hB (by omega) ?_
    intro r H6 ho6 kb6 hf6
    have l6 := kb6.le
    rw [← hsn] at ho6
    obtain ⟨be', rfl, hb1', hb2', hb3'⟩ := evCells ho6 (by rw [evs0_len]; omega)
    have hlen2 : (evs0 mk lo hh ls (o.take (i + 1))).length = i + 1 + 1 := by rw [evs0_len, List.length_take]; omega
    have hge := hf6 be' rfl
    rw [hlen2]
    repeat' first
      | refine CO.cons rfl ?_
      | refine CO.nil ?_
      | refine CV.seq ?_
      | refine CV.region callees ?_
      | refine CV.cond ?_
      | refine CV.block ?_
      | refine CV.skip ?_
      | refine CV.exit ?_
      | refine CV.ret ?_
      | refine CV.scope ?_
      | refine CV.draw callees (by decide +kernel) ?_
      | refine CH.cons rfl ?_
      | refine CH.nil ?_
      | refine CO.consG rfl ?_
      | refine CH.consG rfl ?_
      | refine CG.cons rfl ?_
      | refine CR.cons ?_
      | refine CR.nil ?_
      | refine CG.nil ?_
      | refine CG.consG rfl ?_
      | refine ⟨(rfl : plain _ = true), ?_⟩
      | refine ⟨(rfl : nilOk _ = some _), ?_⟩
      | refine ⟨_, ints_len (by assumption), ?_⟩
      | refine ⟨_, ints_addr (by assumption) (by omega) (by omega), ?_⟩
      | refine ⟨_, ints_load (by assumption) (by omega) (by omega), ?_⟩
      | refine ⟨(⟨by omega, by omega⟩ : inI64 _), ?_⟩
      | refine ⟨_, fun tm ha => step1_max rfl (ev_tmp ha rfl) (ev_tmp ha rfl), ?_⟩
      | refine ⟨_, fun tm ha => step1_min rfl (ev_tmp ha rfl) (ev_tmp ha rfl), ?_⟩
      | (refine ⟨fun _ => ?_, fun _ => ?_⟩ <;> first | (exfalso; omega) | skip)
      | fail
    refine ⟨(i + 1, be'), (by repeat' first | exact trivial | refine ⟨rfl, ?_⟩ | refine ⟨slot_int (by (try simp only [Int.toNat_natCast]); omega), ?_⟩), (by (try dsimp only); omega), ?_⟩
    exact ⟨by omega, (kb6.get b0 (by omega) (by simp [blkOf]; omega)).trans hc5, hb3', kb6.keep (kx.trans k5) (fun c hc => by simp [blkOf] at hc; omega), by omega, by omega⟩
  obtain rfl : i = o.length := by omega
  rw [List.take_length] at hgx hEl
  obtain ⟨E, hE⟩ : ∃ E, evs0 mk lo hh ls o = E := ⟨_, rfl⟩
  have hbd : ∀ j, j < E.length → 0 ≤ E[j]!.hi ∧ E[j]!.hi ≤ 100000 := fun j hj => by
    have := evs0_bd (mk := mk) (lo := lo) (hi := hh) hls hok h0 h1 h2 h3 j (by rw [hE]; exact hj)
    rw [hE] at this
    exact this.2
  have hres : evsL mk lo hh ls o = downL E := by rw [evsL, hE]
  rw [hE] at hgx hEl
  rw [hres]
  have hdl := downL_len (E := E)
  have hdb := downL_bd hbd
  repeat' first
    | refine CO.cons rfl ?_
    | refine CO.nil ?_
    | refine CV.seq ?_
    | refine CV.region callees ?_
    | refine CV.cond ?_
    | refine CV.block ?_
    | refine CV.skip ?_
    | refine CV.exit ?_
    | refine CV.ret ?_
    | refine CV.scope ?_
    | refine CV.draw callees (by decide +kernel) ?_
    | refine CH.cons rfl ?_
    | refine CH.nil ?_
    | refine CO.consG rfl ?_
    | refine CH.consG rfl ?_
    | refine CG.cons rfl ?_
    | refine CR.cons ?_
    | refine CR.nil ?_
    | refine CG.nil ?_
    | refine CG.consG rfl ?_
    | refine ⟨(rfl : plain _ = true), ?_⟩
    | refine ⟨(rfl : nilOk _ = some _), ?_⟩
    | refine ⟨_, ints_len (by assumption), ?_⟩
    | refine ⟨_, ints_addr (by assumption) (by omega) (by omega), ?_⟩
    | refine ⟨_, ints_load (by assumption) (by omega) (by omega), ?_⟩
    | refine ⟨(⟨by omega, by omega⟩ : inI64 _), ?_⟩
    | refine ⟨_, fun tm ha => step1_max rfl (ev_tmp ha rfl) (ev_tmp ha rfl), ?_⟩
    | refine ⟨_, fun tm ha => step1_min rfl (ev_tmp ha rfl) (ev_tmp ha rfl), ?_⟩
    | (refine ⟨_, ev_sl, ?_⟩)
    | (refine ⟨fun _ => ?_, fun _ => ?_⟩ <;> first | (exfalso; omega) | skip)
    | fail
  refine CV.loopc ?_
  refine WCv.rounds callees false (α := Nat × List Ev) (fun (i, F) => [(5, .slice (some ⟨be, 0, none⟩) (o.length + 1) 0), (10, VI i)]) (fun (i, F) Hz => i < E.length ∧ F.length = E.length ∧ (∀ j, j < E.length → F[j]! = if i ≤ j then (downL E)[j]! else E[j]!) ∧ Hz.get be = some (.cells (F.map Evl).flatten 125 2) ∧ Keep H Hz ∧ be < Hz.n) (fun (i, F) => i) (o.length, E) (by repeat' first | exact trivial | refine ⟨rfl, ?_⟩ | refine ⟨slot_int (by (try simp only [Int.toNat_natCast]); omega), ?_⟩) ?_ ?_
  · refine ⟨by omega, rfl, fun j hj => ?_, hgx, kx, lx⟩
    split
    · rename_i h
      obtain rfl : j = E.length - 1 := by omega
      exact (downL_last (by omega)).symm
    · rfl
  clear hgx kx hrx hox hcx
  rintro ⟨i, F⟩ Hy ⟨hi, hFl, hF, hgy, ky, ly⟩ hBy
  by_cases hi2 : 0 < i
  · have hj : i - 1 < E.length := by omega
    have hi1 : ((i : Int) - 1).toNat = i - 1 := by omega
    have hF1 := hF (i - 1) hj
    rw [if_neg (by omega)] at hF1
    have hF2 := hF i hi
    rw [if_pos (Nat.le_refl _)] at hF2
    have hd1 := downL_at (E := E) (j := i - 1) (by omega)
    rw [show i - 1 + 1 = i by omega] at hd1
    have hdbi := hdb i hi
    have hbdi := hbd (i - 1) hj
    have hc1 : (F.map Evl).flatten[((i : Int) - 1).toNat * 4 + 2 + 1]? = some (VI F[i - 1]!.hi) := by
      rw [hi1, show (i - 1) * 4 + 2 + 1 = (i - 1) * 4 + 3 by omega]; exact ev_cell (q := 3) (by omega) rfl
    have hc2 : (F.map Evl).flatten[((i : Int)).toNat * 4 + 2 + 1]? = some (VI F[i]!.hi) := by
      rw [Int.toNat_natCast, show i * 4 + 2 + 1 = i * 4 + 3 by omega]; exact ev_cell (q := 3) (by omega) rfl
    rw [hF1] at hc1
    rw [hF2] at hc2
    repeat' first
      | refine CO.cons rfl ?_
      | refine CO.nil ?_
      | refine CV.seq ?_
      | refine CV.region callees ?_
      | refine CV.cond ?_
      | refine CV.block ?_
      | refine CV.skip ?_
      | refine CV.exit ?_
      | refine CV.ret ?_
      | refine CV.scope ?_
      | refine CV.draw callees (by decide +kernel) ?_
      | refine CH.cons rfl ?_
      | refine CH.nil ?_
      | refine CO.consG rfl ?_
      | refine CH.consG rfl ?_
      | refine CG.cons rfl ?_
      | refine CR.cons ?_
      | refine CR.nil ?_
      | refine CG.nil ?_
      | refine CG.consG rfl ?_
      | refine ⟨(rfl : plain _ = true), ?_⟩
      | refine ⟨(rfl : nilOk _ = some _), ?_⟩
      | refine ⟨_, ints_len (by assumption), ?_⟩
      | refine ⟨_, ints_addr (by assumption) (by omega) (by omega), ?_⟩
      | refine ⟨_, ints_load (by assumption) (by omega) (by omega), ?_⟩
      | refine ⟨(⟨by omega, by omega⟩ : inI64 _), ?_⟩
      | refine ⟨_, fun tm ha => step1_max rfl (ev_tmp ha rfl) (ev_tmp ha rfl), ?_⟩
      | refine ⟨_, fun tm ha => step1_min rfl (ev_tmp ha rfl) (ev_tmp ha rfl), ?_⟩
      | (refine ⟨_, ev_adr (by omega) (by omega), ?_⟩)
      | (refine ⟨_, fS foE2 (by decide), ?_⟩)
      | (refine ⟨_, fS foS1 (by decide), ?_⟩)
      | (refine ⟨_, cell_load ag3 hgy hc1, ?_⟩)
      | (refine ⟨_, cell_load ag3 hgy hc2, ?_⟩)
      | (refine ⟨fun _ => ?_, fun _ => ?_⟩ <;> first | (exfalso; omega) | skip)
      | fail
    refine ⟨_, _, store_row (i := ((i : Int) - 1).toNat * 4 + 2 + 1) sz3 hgy (by rw [flat_len evRows, List.length_map]; omega) rfl, by omega, ?_⟩
    rw [hi1, show (i - 1) * 4 + 2 + 1 = (i - 1) * 4 + 3 by omega, ev_set (by omega), hF1]
    generalize hs7 : Heap.set Hy be _ = H7
    have hg7 := set_get hs7
    have n7 := set_n hs7
    have o7 := set_old hs7
    repeat' first
      | refine CO.cons rfl ?_
      | refine CO.nil ?_
      | refine CV.seq ?_
      | refine CV.region callees ?_
      | refine CV.cond ?_
      | refine CV.block ?_
      | refine CV.skip ?_
      | refine CV.exit ?_
      | refine CV.ret ?_
      | refine CV.scope ?_
      | refine CV.draw callees (by decide +kernel) ?_
      | refine CH.cons rfl ?_
      | refine CH.nil ?_
      | refine CO.consG rfl ?_
      | refine CH.consG rfl ?_
      | refine CG.cons rfl ?_
      | refine CR.cons ?_
      | refine CR.nil ?_
      | refine CG.nil ?_
      | refine CG.consG rfl ?_
      | refine ⟨(rfl : plain _ = true), ?_⟩
      | refine ⟨(rfl : nilOk _ = some _), ?_⟩
      | refine ⟨_, ints_len (by assumption), ?_⟩
      | refine ⟨_, ints_addr (by assumption) (by omega) (by omega), ?_⟩
      | refine ⟨_, ints_load (by assumption) (by omega) (by omega), ?_⟩
      | refine ⟨(⟨by omega, by omega⟩ : inI64 _), ?_⟩
      | refine ⟨_, fun tm ha => step1_max rfl (ev_tmp ha rfl) (ev_tmp ha rfl), ?_⟩
      | refine ⟨_, fun tm ha => step1_min rfl (ev_tmp ha rfl) (ev_tmp ha rfl), ?_⟩
      | (refine ⟨fun _ => ?_, fun _ => ?_⟩ <;> first | (exfalso; omega) | skip)
      | fail
    refine ⟨(i - 1, F.set (i - 1) ⟨E[i - 1]!.k, E[i - 1]!.o, E[i - 1]!.lo, min E[i - 1]!.hi ((downL E)[i]!.hi - 1)⟩), (by repeat' first | exact trivial | refine ⟨rfl, ?_⟩ | refine ⟨slot_int (by (try simp only [Int.toNat_natCast]); omega), ?_⟩), (by (try dsimp only); omega), ?_⟩
    refine ⟨by omega, by rw [List.length_set]; exact hFl, fun j hj' => ?_, hg7, keep_put ky (by omega) o7 n7, by omega⟩
    rw [getElem!_pos (F.set _ _) j (by rw [List.length_set]; omega), List.getElem_set]
    by_cases e : i - 1 = j
    · subst e
      rw [if_pos rfl, if_pos (Nat.le_refl _)]
      exact hd1.symm
    · rw [if_neg e]
      have := hF j hj'
      rw [getElem!_pos F j (by omega)] at this
      rw [this]
      by_cases c : i ≤ j
      · rw [if_pos c, if_pos (by omega)]
      · rw [if_neg c, if_neg (by omega)]
  obtain rfl : i = 0 := by omega
  have hFe : F = downL E := by
    apply List.ext_getElem (by omega)
    intro j h1 h2
    have := hF j (by omega)
    rw [if_pos (Nat.zero_le _), getElem!_pos F j h1, getElem!_pos (downL E) j h2] at this
    exact this
  subst hFe
  repeat' first
    | refine CO.cons rfl ?_
    | refine CO.nil ?_
    | refine CV.seq ?_
    | refine CV.region callees ?_
    | refine CV.cond ?_
    | refine CV.block ?_
    | refine CV.skip ?_
    | refine CV.exit ?_
    | refine CV.ret ?_
    | refine CV.scope ?_
    | refine CV.draw callees (by decide +kernel) ?_
    | refine CH.cons rfl ?_
    | refine CH.nil ?_
    | refine CO.consG rfl ?_
    | refine CH.consG rfl ?_
    | refine CG.cons rfl ?_
    | refine CR.cons ?_
    | refine CR.nil ?_
    | refine CG.nil ?_
    | refine CG.consG rfl ?_
    | refine ⟨(rfl : plain _ = true), ?_⟩
    | refine ⟨(rfl : nilOk _ = some _), ?_⟩
    | refine ⟨_, ints_len (by assumption), ?_⟩
    | refine ⟨_, ints_addr (by assumption) (by omega) (by omega), ?_⟩
    | refine ⟨_, ints_load (by assumption) (by omega) (by omega), ?_⟩
    | refine ⟨(⟨by omega, by omega⟩ : inI64 _), ?_⟩
    | refine ⟨_, fun tm ha => step1_max rfl (ev_tmp ha rfl) (ev_tmp ha rfl), ?_⟩
    | refine ⟨_, fun tm ha => step1_min rfl (ev_tmp ha rfl) (ev_tmp ha rfl), ?_⟩
    | (refine ⟨fun _ => ?_, fun _ => ?_⟩ <;> first | (exfalso; omega) | skip)
    | fail
  exact ⟨rfl, ⟨evRows, .inr ⟨be, by rw [List.length_map, hdl, hEl], by omega, ly, hgy⟩⟩, ky⟩
end Go.Proofs.YtijimplcjaeneaaGreatDoor

