
/- A table at work. -/
import Derived.Test.YtcpklnekpdhlmaaVas
set_option linter.unusedVariables false
set_option linter.unusedSimpArgs false
namespace Go.AI
section
variable {P : Program} {H : Heap} {t e : TypeId} {z : Value} {by' : Nat}
theorem make_rowW (ht : P.underlying t = some (.slice e)) (h1 : oneBB P e = some (z, by')) (hb : by' ≤ 1000) (n : Nat) (hn : n ≤ 1000000) :
    amakeSlice P H t (.int .i64 n) (.int .i64 n) = some (.slice (some ⟨H.n, 0, none⟩) n 0, H.new (.cells (List.replicate n z) e 2), H.n) := by
  obtain ⟨info, hi, hz, hs, hc, hsc, hby⟩ := oneBB_spec h1
  have hmul : info.bytes * n ≤ 1000 * 1000000 := Nat.mul_le_mul (by omega) hn
  simp only [amakeSlice, ht, hi, hz]
  rw [if_pos (by
    refine ⟨by omega, by omega, by omega, by have h := Int.ofNat_le.2 hmul; rw [Int.natCast_mul] at h; omega, by omega, by rw [hc, hs]; rfl, by rw [hc]; simp [hsc]⟩)]
  simp only [anew, Int.toNat_natCast, hs, Nat.mul_one, hc]
  congr 5
  apply List.ext_getElem
  · simp [zeros]
  · intro i h1 h2; simp [zeros, Nat.mod_one]
end
end Go.AI
namespace Go.Proofs.Ytcpklnekpdhlmaa
open Go.AI
/-- A table at work: its rows are one's own, and apart. -/
structure Work (H : Heap) (bw : Nat) (A : Value) (vals : List Value) (t : Tb) (B : Nat) : Prop where
  get : H.get bw = some (.cells (Tl t A) 98 1)
  lo : B ≤ bw
  lt : bw < H.n
  own : OwnG H A vals t.rs B
  aw : blkOf A ≠ some bw
  vw : ∀ i : Nat, i < t.rs.length → blkOf vals[i]! ≠ some bw
  sep : ∀ i j : Nat, i < t.rs.length → j < t.rs.length → i ≠ j → Apart vals[i]! vals[j]!
theorem foW : fieldOff Try.prog 98 0 = some (0, 4) := by kernel_rfl
theorem addrW {b : Nat} : afieldAddr Try.prog 98 (.pointer (some ⟨b, 0, none⟩)) 0 = some (.pointer (some ⟨b, 0, none⟩)) := field_addr foW (by decide)
theorem buildW {p q s : Int} {x : Option Addr} {n c : Nat} : abuild Try.prog 98 [(0, .agg #[.int .i64 p, .int .i64 q, .int .i64 s, .slice x n c])] = some (.agg #[.int .i64 p, .int .i64 q, .int .i64 s, .slice x n c]) := by kernel_rfl
theorem Row.shape {H : Heap} {v : Value} {vs : List Value} (h : Row H v vs) : ∃ x n c, v = .slice x n c := by
  rcases h with ⟨rfl, _⟩ | ⟨rfl, _⟩ | ⟨_, _, _, _, _, _, rfl, _⟩
  · exact ⟨_, _, _, rfl⟩
  · exact ⟨_, _, _, rfl⟩
  · exact ⟨_, _, _, rfl⟩
theorem cell_store {H : Heap} {b i : Nat} {cs : List Value} {e t : TypeId} {k : Nat} {v : Value} (hs : sizeB Try.prog t = some 1) (hg : H.get b = some (.cells cs e (k + 1))) (hi : i < cs.length) (hv : oneC v = true) : astore Try.prog t H v (.pointer (some ⟨b, i, none⟩)) = some (H.set b (.cells (cs.set i v) e (k + 1)), b) := store_row hs hg hi hv
theorem clone_ints {B : Nat} {v : Value} {H : Heap} {xs : List Int} (hB : B ≤ H.n) (hv : Ints H v xs) (hn : xs.length < 1000000) :
    CallB Try.prog B 84 [v] H (fun r H' => Own 3 H' r (xs.map VI) H.n ∧ Keep H H') := clone_spec hB hv hn
set_option maxHeartbeats 2000000 in
set_option maxRecDepth 100000 in
theorem begun_spec {B : Nat} {H : Heap} {t : Tb} {A : Value} {vals : List Value} (hB : B ≤ H.n) (hg : Grid H A vals t.rs) (hv : Vt t) :
    CallB Try.prog B 62 [Tv t A] H (fun r H' => (∃ bw A' vals', r = .pointer (some ⟨bw, 0, none⟩) ∧ Work H' bw A' vals' t H.n) ∧ Keep H H') := by
  have q7 := hv.len0
  have q8 := hv.len9
  have q9 := hv.row
  have q2 := hv.pk9
  obtain ⟨x, n, c, rfl⟩ := Row.shape hg.row
  refine CV.enter callees false rfl Try.func62 rfl (by kernel_rfl) (Nat.le_of_ble_eq_true rfl) hB ?_
  repeat' first
    | refine CO.cons rfl ?_
    | refine CO.nil ?_
    | refine CV.seq ?_
    | refine CV.region callees ?_
    | refine CV.cond ?_
    | refine CV.block ?_
    | refine CV.skip ?_
    | refine CV.exit ?_
    | refine CV.ret ?_
    | refine CV.scope ?_
    | refine CV.draw callees rfl ?_
    | refine CH.cons rfl ?_
    | refine CH.nil ?_
    | refine CO.consG rfl ?_
    | refine CH.consG rfl ?_
    | refine CG.cons rfl ?_
    | refine CR.cons ?_
    | refine CR.nil ?_
    | refine CG.nil ?_
    | refine CG.consG rfl ?_
    | refine ⟨(rfl : plain _ = true), ?_⟩
    | refine ⟨(rfl : nilOk _ = some _), ?_⟩
    | refine ⟨_, ints_len (by assumption), ?_⟩
    | refine ⟨_, ints_addr (by assumption) (by omega) (by omega), ?_⟩
    | refine ⟨_, ints_load (by assumption) (by omega) (by omega), ?_⟩
    | refine ⟨(⟨by omega, by omega⟩ : inI64 _), ?_⟩
    | refine ⟨_, fun tm ha => step1_max rfl (ev_tmp ha rfl) (ev_tmp ha rfl), ?_⟩
    | refine ⟨_, fun tm ha => step1_min rfl (ev_tmp ha rfl) (ev_tmp ha rfl), ?_⟩
    | (refine ⟨fun _ => ?_, fun _ => ?_⟩ <;> first | (exfalso; omega) | skip)
    | fail
  refine ⟨(rfl : notTuple _ = true), ?_⟩
  rw [alloc_t rfl]
  generalize hs : H.new (Tc t (.slice x n c)) = Hs
  have hgt := new_get hs
  have k1 := new_keep hs
  have n1 := new_n hs
  have hgs : Grid Hs (.slice x n c) vals t.rs := hg.keep k1
  repeat' first
    | refine CO.cons rfl ?_
    | refine CO.nil ?_
    | refine CV.seq ?_
    | refine CV.region callees ?_
    | refine CV.cond ?_
    | refine CV.block ?_
    | refine CV.skip ?_
    | refine CV.exit ?_
    | refine CV.ret ?_
    | refine CV.scope ?_
    | refine CV.draw callees rfl ?_
    | refine CH.cons rfl ?_
    | refine CH.nil ?_
    | refine CO.consG rfl ?_
    | refine CH.consG rfl ?_
    | refine CG.cons rfl ?_
    | refine CR.cons ?_
    | refine CR.nil ?_
    | refine CG.nil ?_
    | refine CG.consG rfl ?_
    | refine ⟨(rfl : plain _ = true), ?_⟩
    | refine ⟨(rfl : nilOk _ = some _), ?_⟩
    | refine ⟨_, ints_len (by assumption), ?_⟩
    | refine ⟨_, ints_addr (by assumption) (by omega) (by omega), ?_⟩
    | refine ⟨_, ints_load (by assumption) (by omega) (by omega), ?_⟩
    | refine ⟨(⟨by omega, by omega⟩ : inI64 _), ?_⟩
    | refine ⟨_, fun tm ha => step1_max rfl (ev_tmp ha rfl) (ev_tmp ha rfl), ?_⟩
    | refine ⟨_, fun tm ha => step1_min rfl (ev_tmp ha rfl) (ev_tmp ha rfl), ?_⟩
    | (refine ⟨_, loadT hgt, ?_⟩)
    | (refine ⟨_, buildW, ?_⟩)
    | (refine ⟨fun _ => ?_, fun _ => ?_⟩ <;> first | (exfalso; omega) | skip)
    | fail
  refine ⟨(rfl : notTuple _ = true), ?_⟩
  rw [show anew Hs (Value.cells (Value.agg #[.int .i64 t.pk, .int .i64 t.ps, .int .i64 t.st, .slice x n c])).toList 98 1 = Hs.new (.cells (Tl t (.slice x n c)) 98 1) from rfl]
  generalize hs2 : Hs.new (.cells (Tl t (.slice x n c)) 98 1) = Hw
  have hgw := new_get hs2
  have k2 := new_keep hs2
  have n2 := new_n hs2
  obtain ⟨bw, hbw⟩ : ∃ bw, Hs.n = bw := ⟨_, rfl⟩
  rw [hbw] at hgw n2 ⊢
  have hgt2 : Hw.get H.n = some (Tc t (.slice x n c)) := by rw [k2.2 _ (by omega)]; exact hgt
  have hgs2 : Grid Hw (.slice x n c) vals t.rs := hgs.keep k2
  repeat' first
    | refine CO.cons rfl ?_
    | refine CO.nil ?_
    | refine CV.seq ?_
    | refine CV.region callees ?_
    | refine CV.cond ?_
    | refine CV.block ?_
    | refine CV.skip ?_
    | refine CV.exit ?_
    | refine CV.ret ?_
    | refine CV.scope ?_
    | refine CV.draw callees rfl ?_
    | refine CH.cons rfl ?_
    | refine CH.nil ?_
    | refine CO.consG rfl ?_
    | refine CH.consG rfl ?_
    | refine CG.cons rfl ?_
    | refine CR.cons ?_
    | refine CR.nil ?_
    | refine CG.nil ?_
    | refine CG.consG rfl ?_
    | refine ⟨(rfl : plain _ = true), ?_⟩
    | refine ⟨(rfl : nilOk _ = some _), ?_⟩
    | refine ⟨_, ints_len (by assumption), ?_⟩
    | refine ⟨_, ints_addr (by assumption) (by omega) (by omega), ?_⟩
    | refine ⟨_, ints_load (by assumption) (by omega) (by omega), ?_⟩
    | refine ⟨(⟨by omega, by omega⟩ : inI64 _), ?_⟩
    | refine ⟨_, fun tm ha => step1_max rfl (ev_tmp ha rfl) (ev_tmp ha rfl), ?_⟩
    | refine ⟨_, fun tm ha => step1_min rfl (ev_tmp ha rfl) (ev_tmp ha rfl), ?_⟩
    | (refine ⟨_, addrT (by decide), ?_⟩)
    | (refine ⟨_, cell_load ag32 hgt2 rfl, ?_⟩)
    | refine ⟨_, hgs2.alen, ?_⟩
    | (refine ⟨_, _, make_rowW un32 one22 (by omega) t.rs.length (by omega), ?_⟩)
    | (refine ⟨fun _ => ?_, fun _ => ?_⟩ <;> first | (exfalso; omega) | skip)
    | fail
  have hown : Own 22 (Hw.new (.cells (List.replicate t.rs.length (.slice none 0 0)) 22 2)) (.slice (some ⟨Hw.n, 0, none⟩) t.rs.length 0) (List.replicate t.rs.length (.slice none 0 0)) H.n :=
    .inr ⟨Hw.n, by simp, by omega, Nat.lt_succ_self _, by rw [Heap.get_new_eq]⟩
  generalize hs3 : Hw.new (.cells (List.replicate t.rs.length (.slice none 0 0)) 22 2) = H3 at hown ⊢
  have k3 := new_keep hs3
  have n3 := new_n hs3
  obtain ⟨ba, hba⟩ : ∃ ba, Hw.n = ba := ⟨_, rfl⟩
  rw [hba] at hown n3 ⊢
  have hblk : blkOf (Value.slice (some ⟨ba, 0, none⟩) t.rs.length 0) = some ba := rfl
  generalize hA' : Value.slice (some ⟨ba, 0, none⟩) t.rs.length 0 = A' at hown hblk ⊢
  have hoA : oneC A' = true := by rw [← hA']; rfl
  have hgw3 : H3.get bw = some (.cells (Tl t (.slice x n c)) 98 1) := by rw [k3.2 _ (by omega)]; exact hgw
  repeat' first
    | refine CO.cons rfl ?_
    | refine CO.nil ?_
    | refine CV.seq ?_
    | refine CV.region callees ?_
    | refine CV.cond ?_
    | refine CV.block ?_
    | refine CV.skip ?_
    | refine CV.exit ?_
    | refine CV.ret ?_
    | refine CV.scope ?_
    | refine CV.draw callees rfl ?_
    | refine CH.cons rfl ?_
    | refine CH.nil ?_
    | refine CO.consG rfl ?_
    | refine CH.consG rfl ?_
    | refine CG.cons rfl ?_
    | refine CR.cons ?_
    | refine CR.nil ?_
    | refine CG.nil ?_
    | refine CG.consG rfl ?_
    | refine ⟨(rfl : plain _ = true), ?_⟩
    | refine ⟨(rfl : nilOk _ = some _), ?_⟩
    | refine ⟨_, ints_len (by assumption), ?_⟩
    | refine ⟨_, ints_addr (by assumption) (by omega) (by omega), ?_⟩
    | refine ⟨_, ints_load (by assumption) (by omega) (by omega), ?_⟩
    | refine ⟨(⟨by omega, by omega⟩ : inI64 _), ?_⟩
    | refine ⟨_, fun tm ha => step1_max rfl (ev_tmp ha rfl) (ev_tmp ha rfl), ?_⟩
    | refine ⟨_, fun tm ha => step1_min rfl (ev_tmp ha rfl) (ev_tmp ha rfl), ?_⟩
    | (refine ⟨_, addrW, ?_⟩)
    | (refine ⟨_, addrT (by decide), ?_⟩)
    | (refine ⟨fun _ => ?_, fun _ => ?_⟩ <;> first | (exfalso; omega) | skip)
    | fail
  refine ⟨_, _, cell_store sz32 hgw3 (Nat.le_of_ble_eq_true rfl) hoA, by omega, ?_⟩
  generalize hs4 : H3.set bw _ = H4
  have hg4 : H4.get bw = some (.cells (Tl t A') 98 1) := set_get hs4
  have n4 := set_n hs4
  have k4 : Keep H H4 := keep_put ((k1.trans k2).trans k3) (by omega) (set_old hs4) n4
  have x4 : KeepX bw H3 H4 := by rw [← hs4]; exact KeepX.set _ _
  have ho4 := hown.keepX x4 hgw3
  have hg4A : Grid H4 (.slice x n c) vals t.rs := hg.keep k4
  have hgt4 : H4.get H.n = some (Tc t (.slice x n c)) := by rw [set_old hs4 _ (by omega), k3.2 _ (by omega)]; exact hgt2
  repeat' first
    | refine CO.cons rfl ?_
    | refine CO.nil ?_
    | refine CV.seq ?_
    | refine CV.region callees ?_
    | refine CV.cond ?_
    | refine CV.block ?_
    | refine CV.skip ?_
    | refine CV.exit ?_
    | refine CV.ret ?_
    | refine CV.scope ?_
    | refine CV.draw callees rfl ?_
    | refine CH.cons rfl ?_
    | refine CH.nil ?_
    | refine CO.consG rfl ?_
    | refine CH.consG rfl ?_
    | refine CG.cons rfl ?_
    | refine CR.cons ?_
    | refine CR.nil ?_
    | refine CG.nil ?_
    | refine CG.consG rfl ?_
    | refine ⟨(rfl : plain _ = true), ?_⟩
    | refine ⟨(rfl : nilOk _ = some _), ?_⟩
    | refine ⟨_, ints_len (by assumption), ?_⟩
    | refine ⟨_, ints_addr (by assumption) (by omega) (by omega), ?_⟩
    | refine ⟨_, ints_load (by assumption) (by omega) (by omega), ?_⟩
    | refine ⟨(⟨by omega, by omega⟩ : inI64 _), ?_⟩
    | refine ⟨_, fun tm ha => step1_max rfl (ev_tmp ha rfl) (ev_tmp ha rfl), ?_⟩
    | refine ⟨_, fun tm ha => step1_min rfl (ev_tmp ha rfl) (ev_tmp ha rfl), ?_⟩
    | (refine ⟨_, addrT (by decide), ?_⟩)
    | (refine ⟨_, cell_load ag32 hgt4 rfl, ?_⟩)
    | refine ⟨_, hg4A.alen, ?_⟩
    | (refine ⟨fun _ => ?_, fun _ => ?_⟩ <;> first | (exfalso; omega) | skip)
    | fail
  refine CV.loopc ?_
  refine WCv.rounds callees false (α := List Value × Nat) (fun (ws, i) => [(3, .pointer (some ⟨bw, 0, none⟩)), (18, .slice x n c), (19, .int .i64 t.rs.length), (20, .int .i64 i)]) (fun (ws, i) Hz => i ≤ t.rs.length ∧ ws.length = t.rs.length ∧ Own 22 Hz A' ws H.n ∧ Hz.get bw = some (.cells (Tl t A') 98 1) ∧ Keep H Hz ∧ H4.n ≤ Hz.n ∧ (∀ a : Nat, a < i → Own 3 Hz ws[a]! (t.rs[a]!.map VI) H.n ∧ Apart ws[a]! A' ∧ blkOf ws[a]! ≠ some bw) ∧ (∀ a b : Nat, a < i → b < i → a ≠ b → Apart ws[a]! ws[b]!)) (fun (ws, i) => t.rs.length - i) (List.replicate t.rs.length (.slice none 0 0), 0) (by repeat' first | exact trivial | refine ⟨rfl, ?_⟩ | refine ⟨slot_int (by (try simp only [Int.toNat_natCast]); omega), ?_⟩) ?_ ?_
  · exact ⟨by omega, by simp, ho4, hg4, k4, Nat.le_refl _, fun a ha => by omega, fun a b ha => by omega⟩
  rintro ⟨ws, i⟩ Hx ⟨hi, lw, hoA2, hgx, kx, lx, hro, hsep⟩ hBx
  have hgA : Grid Hx (.slice x n c) vals t.rs := hg.keep kx
  by_cases hi2 : i < t.rs.length
  · have hai : Ints Hx vals[(i : Int).toNat]! t.rs[i]! := hgA.at' i hi2
    obtain ⟨r1, r2, r3⟩ := q9 i hi2
    repeat' first
      | refine CO.cons rfl ?_
      | refine CO.nil ?_
      | refine CV.seq ?_
      | refine CV.region callees ?_
      | refine CV.cond ?_
      | refine CV.block ?_
      | refine CV.skip ?_
      | refine CV.exit ?_
      | refine CV.ret ?_
      | refine CV.scope ?_
      | refine CV.draw callees rfl ?_
      | refine CH.cons rfl ?_
      | refine CH.nil ?_
      | refine CO.consG rfl ?_
      | refine CH.consG rfl ?_
      | refine CG.cons rfl ?_
      | refine CR.cons ?_
      | refine CR.nil ?_
      | refine CG.nil ?_
      | refine CG.consG rfl ?_
      | refine ⟨(rfl : plain _ = true), ?_⟩
      | refine ⟨(rfl : nilOk _ = some _), ?_⟩
      | refine ⟨_, ints_len (by assumption), ?_⟩
      | refine ⟨_, ints_addr (by assumption) (by omega) (by omega), ?_⟩
      | refine ⟨_, ints_load (by assumption) (by omega) (by omega), ?_⟩
      | refine ⟨(⟨by omega, by omega⟩ : inI64 _), ?_⟩
      | refine ⟨_, fun tm ha => step1_max rfl (ev_tmp ha rfl) (ev_tmp ha rfl), ?_⟩
      | refine ⟨_, fun tm ha => step1_min rfl (ev_tmp ha rfl) (ev_tmp ha rfl), ?_⟩
      | refine ⟨_, hgA.addr (by omega) (by omega), ?_⟩
      | refine ⟨_, hgA.load (by omega) (by omega), ?_⟩
      | refine CV.tl callees rfl [0, 1, 2, 3, 4, 5, 6, 7, 8] (by kernel_rfl) ?_
      | (refine ⟨_, addrW, ?_⟩)
      | (refine ⟨_, addrT (by decide), ?_⟩)
      | (refine ⟨_, cell_load ag32 hgx rfl, ?_⟩)
      | (refine ⟨fun _ => ?_, fun _ => ?_⟩ <;> first | (exfalso; omega) | skip)
      | fail
    refine (clone_ints (Nat.le_refl _) hai (by omega)).mono ?_
    rintro u H5 ⟨hu, k5⟩
    have l5 := k5.1
    have hoA5 := hoA2.keep k5
    repeat' first
      | refine CO.cons rfl ?_
      | refine CO.nil ?_
      | refine CV.seq ?_
      | refine CV.region callees ?_
      | refine CV.cond ?_
      | refine CV.block ?_
      | refine CV.skip ?_
      | refine CV.exit ?_
      | refine CV.ret ?_
      | refine CV.scope ?_
      | refine CV.draw callees rfl ?_
      | refine CH.cons rfl ?_
      | refine CH.nil ?_
      | refine CO.consG rfl ?_
      | refine CH.consG rfl ?_
      | refine CG.cons rfl ?_
      | refine CR.cons ?_
      | refine CR.nil ?_
      | refine CG.nil ?_
      | refine CG.consG rfl ?_
      | refine ⟨(rfl : plain _ = true), ?_⟩
      | refine ⟨(rfl : nilOk _ = some _), ?_⟩
      | refine ⟨_, ints_len (by assumption), ?_⟩
      | refine ⟨_, ints_addr (by assumption) (by omega) (by omega), ?_⟩
      | refine ⟨_, ints_load (by assumption) (by omega) (by omega), ?_⟩
      | refine ⟨(⟨by omega, by omega⟩ : inI64 _), ?_⟩
      | refine ⟨_, fun tm ha => step1_max rfl (ev_tmp ha rfl) (ev_tmp ha rfl), ?_⟩
      | refine ⟨_, fun tm ha => step1_min rfl (ev_tmp ha rfl) (ev_tmp ha rfl), ?_⟩
      | refine ⟨_, Row.addr hoA5.row un32 sz22 (by omega) (by rw [lw]; omega), ?_⟩
      | (refine ⟨fun _ => ?_, fun _ => ?_⟩ <;> first | (exfalso; omega) | skip)
      | fail
    rw [show ((i : Int)).toNat = i from rfl]
    refine store_ask sz22 hoA5 (by omega) (by omega) hu.row.oneC.1 ?_
    intro H6 hoA6 kb6
    have l6 := kb6.le
    have kb : KeepBut A' Hx H6 := (k5.but A').trans kb6
    have huA : Apart u A' := fun d hd hd2 => by have h1 := (hu.lt hd).1; have h2 := (hoA2.lt hd2).2; omega
    repeat' first
      | refine CO.cons rfl ?_
      | refine CO.nil ?_
      | refine CV.seq ?_
      | refine CV.region callees ?_
      | refine CV.cond ?_
      | refine CV.block ?_
      | refine CV.skip ?_
      | refine CV.exit ?_
      | refine CV.ret ?_
      | refine CV.scope ?_
      | refine CV.draw callees rfl ?_
      | refine CH.cons rfl ?_
      | refine CH.nil ?_
      | refine CO.consG rfl ?_
      | refine CH.consG rfl ?_
      | refine CG.cons rfl ?_
      | refine CR.cons ?_
      | refine CR.nil ?_
      | refine CG.nil ?_
      | refine CG.consG rfl ?_
      | refine ⟨(rfl : plain _ = true), ?_⟩
      | refine ⟨(rfl : nilOk _ = some _), ?_⟩
      | refine ⟨_, ints_len (by assumption), ?_⟩
      | refine ⟨_, ints_addr (by assumption) (by omega) (by omega), ?_⟩
      | refine ⟨_, ints_load (by assumption) (by omega) (by omega), ?_⟩
      | refine ⟨(⟨by omega, by omega⟩ : inI64 _), ?_⟩
      | refine ⟨_, fun tm ha => step1_max rfl (ev_tmp ha rfl) (ev_tmp ha rfl), ?_⟩
      | refine ⟨_, fun tm ha => step1_min rfl (ev_tmp ha rfl) (ev_tmp ha rfl), ?_⟩
      | (refine ⟨fun _ => ?_, fun _ => ?_⟩ <;> first | (exfalso; omega) | skip)
      | fail
    refine ⟨(ws.set i u, i + 1), (by repeat' first | exact trivial | refine ⟨rfl, ?_⟩ | refine ⟨slot_int (by (try simp only [Int.toNat_natCast]); omega), ?_⟩), (by (try dsimp only); omega), ?_⟩
    have hat : ∀ a, a < ws.length → (ws.set i u)[a]! = if i = a then u else ws[a]! := fun a ha => by
      rw [getElem!_pos _ a (by rw [List.length_set]; exact ha), List.getElem_set, getElem!_pos ws a ha]
    refine ⟨by omega, by rw [List.length_set]; exact lw, hoA6, ?_, kb6.keep (kx.trans k5) (fun d hd => (hoA2.lt hd).1), by omega, fun a ha => ?_, fun a b ha hb hab => ?_⟩
    · rw [kb6.get bw (by omega) (fun h => by rw [hblk] at h; cases h; omega), k5.2 bw (by omega)]; exact hgx
    · rw [hat a (by omega)]
      by_cases e : i = a
      · subst e
        rw [if_pos rfl]
        exact ⟨(hu.low kx.1).keepBut kb6 huA, huA, fun h => by have := (hu.lt h).1; omega⟩
      · rw [if_neg e]
        obtain ⟨g1, g2, g3⟩ := hro a (by omega)
        exact ⟨g1.keepBut kb g2, g2, g3⟩
    · rw [hat a (by omega), hat b (by omega)]
      by_cases e : i = a
      · rw [if_pos e, if_neg (by omega)]
        intro d hd hd2
        have h1 := (hu.lt hd).1
        have h2 := ((hro b (by omega)).1.lt hd2).2
        omega
      · rw [if_neg e]
        by_cases e2 : i = b
        · rw [if_pos e2]
          intro d hd hd2
          have h1 := (hu.lt hd2).1
          have h2 := ((hro a (by omega)).1.lt hd).2
          omega
        · rw [if_neg e2]; exact hsep a b (by omega) (by omega) hab
  · have hil : i = t.rs.length := by omega
    subst hil
    repeat' first
      | refine CO.cons rfl ?_
      | refine CO.nil ?_
      | refine CV.seq ?_
      | refine CV.region callees ?_
      | refine CV.cond ?_
      | refine CV.block ?_
      | refine CV.skip ?_
      | refine CV.exit ?_
      | refine CV.ret ?_
      | refine CV.scope ?_
      | refine CV.draw callees rfl ?_
      | refine CH.cons rfl ?_
      | refine CH.nil ?_
      | refine CO.consG rfl ?_
      | refine CH.consG rfl ?_
      | refine CG.cons rfl ?_
      | refine CR.cons ?_
      | refine CR.nil ?_
      | refine CG.nil ?_
      | refine CG.consG rfl ?_
      | refine ⟨(rfl : plain _ = true), ?_⟩
      | refine ⟨(rfl : nilOk _ = some _), ?_⟩
      | refine ⟨_, ints_len (by assumption), ?_⟩
      | refine ⟨_, ints_addr (by assumption) (by omega) (by omega), ?_⟩
      | refine ⟨_, ints_load (by assumption) (by omega) (by omega), ?_⟩
      | refine ⟨(⟨by omega, by omega⟩ : inI64 _), ?_⟩
      | refine ⟨_, fun tm ha => step1_max rfl (ev_tmp ha rfl) (ev_tmp ha rfl), ?_⟩
      | refine ⟨_, fun tm ha => step1_min rfl (ev_tmp ha rfl) (ev_tmp ha rfl), ?_⟩
      | (refine ⟨fun _ => ?_, fun _ => ?_⟩ <;> first | (exfalso; omega) | skip)
      | fail
    exact ⟨rfl, ⟨bw, A', ws, rfl, ⟨hgx, by omega, by omega, ⟨hoA2, lw, fun i hi => (hro i hi).1, fun i hi => (hro i hi).2.1⟩, fun h => by rw [hblk] at h; cases h; omega, fun i hi => (hro i hi).2.2, hsep⟩⟩, kx⟩
end Go.Proofs.Ytcpklnekpdhlmaa
