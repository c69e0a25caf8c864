
/- A deed of writing, at a table at work. -/
import Derived.Test.YtcpklnekpdhlmaaVbs
set_option linter.unusedVariables false
set_option linter.unusedSimpArgs false
namespace Go.Proofs.Ytcpklnekpdhlmaa
open Go.AI
abbrev Dl (d : Dd) : List Value := [.int .i64 d.kd, .int .i64 d.gs, .int .i64 d.pc, .int .i64 d.nm]
abbrev Dv (d : Dd) : Value := .agg #[.int .i64 d.kd, .int .i64 d.gs, .int .i64 d.pc, .int .i64 d.nm]
abbrev Dc (d : Dd) : AObj := .cells (Dl d) 54 1
theorem foD0 : fieldOff Try.prog 54 0 = some (0, 1) := by kernel_rfl
theorem foD1 : fieldOff Try.prog 54 1 = some (1, 1) := by kernel_rfl
theorem foD2 : fieldOff Try.prog 54 2 = some (2, 1) := by kernel_rfl
theorem foD3 : fieldOff Try.prog 54 3 = some (3, 1) := by kernel_rfl
theorem foD (i : Nat) (hi : i < 4) : fieldOff Try.prog 54 i = some (i, 1) := by
  match i, hi with
  | 0, _ => exact foD0
  | 1, _ => exact foD1
  | 2, _ => exact foD2
  | 3, _ => exact foD3
theorem addrD {b i : Nat} (hi : i < 4) : afieldAddr Try.prog 54 (.pointer (some ⟨b, 0, none⟩)) i = some (.pointer (some ⟨b, i, none⟩)) := by
  rw [field_addr (foD i hi) (by decide), Nat.zero_add]
theorem agD : isAggB Try.prog 54 = some true := by kernel_rfl
theorem szD : sizeB Try.prog 54 = some 4 := by kernel_rfl
theorem loadD {H : Heap} {b : Nat} {d : Dd} (hg : H.get b = some (Dc d)) : aload Try.prog 54 H (.pointer (some ⟨b, 0, none⟩)) = some (Dv d) := by
  simp [aload, hg, agD, szD]
theorem alloc_d {H : Heap} {d : Dd} : anew H (Value.cells (Dv d)).toList 54 1 = H.new (Dc d) := rfl
/-- Nothing that is not the table's is changed. -/
structure KeepW (H H' : Heap) (bw : Nat) (vals : List Value) (m : Nat) : Prop where
  le : H.n ≤ H'.n
  get : ∀ c, c < H.n → c ≠ bw → (∀ i : Nat, i < m → blkOf vals[i]! ≠ some c) → H'.get c = H.get c
theorem keep_w {H H' : Heap} (k : Keep H H') (bw : Nat) (vals : List Value) (m : Nat) : KeepW H H' bw vals m := ⟨k.1, fun c hc _ _ => k.2 c hc⟩
theorem KeepW.trans {H1 H2 H3 : Heap} {bw : Nat} {vals : List Value} {m : Nat} (h : KeepW H1 H2 bw vals m) (k : KeepW H2 H3 bw vals m) : KeepW H1 H3 bw vals m :=
  ⟨Nat.le_trans h.le k.le, fun c hc h1 h2 => by rw [k.get c (Nat.lt_of_lt_of_le hc h.le) h1 h2]; exact h.get c hc h1 h2⟩
theorem Work.keep {H H' : Heap} {bw : Nat} {A : Value} {vals : List Value} {t : Tb} {B : Nat} (h : Work H bw A vals t B) (k : Keep H H') : Work H' bw A vals t B :=
  ⟨by rw [k.2 bw h.lt]; exact h.get, h.lo, Nat.lt_of_lt_of_le h.lt k.1, h.own.keep k, h.aw, h.vw, h.sep⟩
/-- A number is written. -/
theorem Work.write {H H' : Heap} {bw : Nat} {A : Value} {vals : List Value} {t : Tb} {B g p : Nat} {x : Int} (h : Work H bw A vals t B) (hg : g < t.rs.length) (ho : Own 3 H' vals[g]! ((t.rs[g]!.set p x).map VI) B) (kb : KeepBut vals[g]! H H') :
    Work H' bw A vals {t with rs := put2 t.rs g p x} B := by
  have hl : (put2 t.rs g p x).length = t.rs.length := put2_len _ _ _ _
  refine ⟨by rw [kb.get bw h.lt (h.vw g hg)]; exact h.get, h.lo, Nat.lt_of_lt_of_le h.lt kb.le, ⟨h.own.own.keepBut kb (h.own.ap g hg).symm, by rw [h.own.len]; exact hl.symm, fun i hi => ?_, fun i hi => h.own.ap i (by rw [hl] at hi; exact hi)⟩, h.aw, fun i hi => h.vw i (by rw [hl] at hi; exact hi), fun i j hi hj => h.sep i j (by rw [hl] at hi; exact hi) (by rw [hl] at hj; exact hj)⟩
  have hi' : i < t.rs.length := by rw [hl] at hi; exact hi
  show Own 3 H' vals[i]! ((put2 t.rs g p x)[i]!.map VI) B
  rw [put2_at hi']
  by_cases e : g = i
  · subst e; rw [if_pos rfl]; exact ho
  · rw [if_neg e]; exact (h.own.at' i hi').keepBut kb (h.sep i g hi' hg (fun e2 => e e2.symm))
set_option maxHeartbeats 2000000 in
set_option maxRecDepth 100000 in
theorem write_spec {B : Nat} {H : Heap} {bw : Nat} {A : Value} {vals : List Value} {t : Tb} {d : Dd} (hB : B ≤ H.n) (hw : Work H bw A vals t B) (hv : Vt t) (hd : d.kd = 2) :
    CallB Try.prog B 99 [.pointer (some ⟨bw, 0, none⟩), Dv d] H (fun r H' => r = .int .i64 (doE t d) ∧ Work H' bw A vals (doT t d) B ∧ KeepW H H' bw vals t.rs.length) := by
  have q7 := hv.len0
  have q8 := hv.len9
  have q2 := hv.pk9
  have hbl := hw.lo
  have hbt := hw.lt
  have e0 : doE t d = if t.st ≠ 1 then 10 else if d.gs < 0 ∨ (t.rs.length : Int) ≤ d.gs ∨ d.pc < 0 ∨ t.pk ≤ d.pc then 7 else if t.ps ≤ d.pc then 13 else if okN d.nm = true then 0 else 2 := by
    unfold doE; rw [hd]; simp
  have et : ∀ e : Int, doE t d = e → e ≠ 0 → doT t d = t := fun e h1 h2 => by unfold doT; rw [if_neg (by rw [h1]; exact h2)]
  refine CV.enter callees false rfl Try.func99 rfl (by kernel_rfl) (Nat.le_of_ble_eq_true rfl) hB ?_
  repeat' first
    | refine CO.cons rfl ?_
    | refine CO.nil ?_
    | refine CV.seq ?_
    | refine CV.region callees ?_
    | refine CV.cond ?_
    | refine CV.block ?_
    | refine CV.skip ?_
    | refine CV.exit ?_
    | refine CV.ret ?_
    | refine CV.scope ?_
    | refine CV.draw callees rfl ?_
    | refine CH.cons rfl ?_
    | refine CH.nil ?_
    | refine CO.consG rfl ?_
    | refine CH.consG rfl ?_
    | refine CG.cons rfl ?_
    | refine CR.cons ?_
    | refine CR.nil ?_
    | refine CG.nil ?_
    | refine CG.consG rfl ?_
    | refine ⟨(rfl : plain _ = true), ?_⟩
    | refine ⟨(rfl : nilOk _ = some _), ?_⟩
    | refine ⟨_, ints_len (by assumption), ?_⟩
    | refine ⟨_, ints_addr (by assumption) (by omega) (by omega), ?_⟩
    | refine ⟨_, ints_load (by assumption) (by omega) (by omega), ?_⟩
    | refine ⟨(⟨by omega, by omega⟩ : inI64 _), ?_⟩
    | refine ⟨_, fun tm ha => step1_max rfl (ev_tmp ha rfl) (ev_tmp ha rfl), ?_⟩
    | refine ⟨_, fun tm ha => step1_min rfl (ev_tmp ha rfl) (ev_tmp ha rfl), ?_⟩
    | (refine ⟨fun _ => ?_, fun _ => ?_⟩ <;> first | (exfalso; omega) | skip)
    | fail
  refine ⟨(rfl : notTuple _ = true), ?_⟩
  rw [alloc_d]
  generalize hs : H.new (Dc d) = Hs
  have hgd := new_get hs
  have k1 := new_keep hs
  have n1 := new_n hs
  have hws := hw.keep k1
  have hgw := hws.get
  have hgr : Grid Hs A vals t.rs := hws.own.grid
  have fin : ∀ e : Int, doE t d = e → e ≠ 0 → Work Hs bw A vals (doT t d) B ∧ KeepW H Hs bw vals t.rs.length := fun e h1 h2 => by rw [et e h1 h2]; exact ⟨hws, keep_w k1 _ _ _⟩
  by_cases h1 : ¬ t.st = 1
  · repeat' first
      | refine CO.cons rfl ?_
      | refine CO.nil ?_
      | refine CV.seq ?_
      | refine CV.region callees ?_
      | refine CV.cond ?_
      | refine CV.block ?_
      | refine CV.skip ?_
      | refine CV.exit ?_
      | refine CV.ret ?_
      | refine CV.scope ?_
      | refine CV.draw callees rfl ?_
      | refine CH.cons rfl ?_
      | refine CH.nil ?_
      | refine CO.consG rfl ?_
      | refine CH.consG rfl ?_
      | refine CG.cons rfl ?_
      | refine CR.cons ?_
      | refine CR.nil ?_
      | refine CG.nil ?_
      | refine CG.consG rfl ?_
      | refine ⟨(rfl : plain _ = true), ?_⟩
      | refine ⟨(rfl : nilOk _ = some _), ?_⟩
      | refine ⟨_, ints_len (by assumption), ?_⟩
      | refine ⟨_, ints_addr (by assumption) (by omega) (by omega), ?_⟩
      | refine ⟨_, ints_load (by assumption) (by omega) (by omega), ?_⟩
      | refine ⟨(⟨by omega, by omega⟩ : inI64 _), ?_⟩
      | refine ⟨_, fun tm ha => step1_max rfl (ev_tmp ha rfl) (ev_tmp ha rfl), ?_⟩
      | refine ⟨_, fun tm ha => step1_min rfl (ev_tmp ha rfl) (ev_tmp ha rfl), ?_⟩
      | (refine ⟨_, addrW, ?_⟩)
      | (refine ⟨_, addrT (by decide), ?_⟩)
      | (refine ⟨_, cell_load ag3 hgw rfl, ?_⟩)
      | (refine ⟨fun _ => ?_, fun _ => ?_⟩ <;> first | (exfalso; omega) | skip)
      | fail
    have e1 : doE t d = 10 := by rw [e0, if_pos h1]
    exact ⟨rfl, by rw [e1], fin 10 e1 (by decide)⟩
  have h1 : t.st = 1 := Classical.not_not.1 h1
  rw [if_neg (fun h => h h1)] at e0
  by_cases h2 : d.gs < 0 ∨ (t.rs.length : Int) ≤ d.gs ∨ d.pc < 0 ∨ t.pk ≤ d.pc
  · have e1 : doE t d = 7 := by rw [e0, if_pos h2]
    repeat' first
      | refine CO.cons rfl ?_
      | refine CO.nil ?_
      | refine CV.seq ?_
      | refine CV.region callees ?_
      | refine CV.cond ?_
      | refine CV.block ?_
      | refine CV.skip ?_
      | refine CV.exit ?_
      | refine CV.ret ?_
      | refine CV.scope ?_
      | refine CV.draw callees rfl ?_
      | refine CH.cons rfl ?_
      | refine CH.nil ?_
      | refine CO.consG rfl ?_
      | refine CH.consG rfl ?_
      | refine CG.cons rfl ?_
      | refine CR.cons ?_
      | refine CR.nil ?_
      | refine CG.nil ?_
      | refine CG.consG rfl ?_
      | refine ⟨(rfl : plain _ = true), ?_⟩
      | refine ⟨(rfl : nilOk _ = some _), ?_⟩
      | refine ⟨_, ints_len (by assumption), ?_⟩
      | refine ⟨_, ints_addr (by assumption) (by omega) (by omega), ?_⟩
      | refine ⟨_, ints_load (by assumption) (by omega) (by omega), ?_⟩
      | refine ⟨(⟨by omega, by omega⟩ : inI64 _), ?_⟩
      | refine ⟨_, fun tm ha => step1_max rfl (ev_tmp ha rfl) (ev_tmp ha rfl), ?_⟩
      | refine ⟨_, fun tm ha => step1_min rfl (ev_tmp ha rfl) (ev_tmp ha rfl), ?_⟩
      | (refine ⟨_, addrW, ?_⟩)
      | (refine ⟨_, addrT (by decide), ?_⟩)
      | (refine ⟨_, addrD (by decide), ?_⟩)
      | (refine ⟨_, cell_load ag3 hgw rfl, ?_⟩)
      | (refine ⟨_, cell_load ag3 hgd rfl, ?_⟩)
      | (refine ⟨_, cell_load ag32 hgw rfl, ?_⟩)
      | refine ⟨_, hgr.alen, ?_⟩
      | (refine ⟨fun _ => ?_, fun _ => ?_⟩ <;> first | (exfalso; omega) | skip)
      | fail
    all_goals exact ⟨rfl, by rw [e1], fin 7 e1 (by decide)⟩
  rw [if_neg h2] at e0
  by_cases h3 : t.ps ≤ d.pc
  · have e1 : doE t d = 13 := by rw [e0, if_pos h3]
    repeat' first
      | refine CO.cons rfl ?_
      | refine CO.nil ?_
      | refine CV.seq ?_
      | refine CV.region callees ?_
      | refine CV.cond ?_
      | refine CV.block ?_
      | refine CV.skip ?_
      | refine CV.exit ?_
      | refine CV.ret ?_
      | refine CV.scope ?_
      | refine CV.draw callees rfl ?_
      | refine CH.cons rfl ?_
      | refine CH.nil ?_
      | refine CO.consG rfl ?_
      | refine CH.consG rfl ?_
      | refine CG.cons rfl ?_
      | refine CR.cons ?_
      | refine CR.nil ?_
      | refine CG.nil ?_
      | refine CG.consG rfl ?_
      | refine ⟨(rfl : plain _ = true), ?_⟩
      | refine ⟨(rfl : nilOk _ = some _), ?_⟩
      | refine ⟨_, ints_len (by assumption), ?_⟩
      | refine ⟨_, ints_addr (by assumption) (by omega) (by omega), ?_⟩
      | refine ⟨_, ints_load (by assumption) (by omega) (by omega), ?_⟩
      | refine ⟨(⟨by omega, by omega⟩ : inI64 _), ?_⟩
      | refine ⟨_, fun tm ha => step1_max rfl (ev_tmp ha rfl) (ev_tmp ha rfl), ?_⟩
      | refine ⟨_, fun tm ha => step1_min rfl (ev_tmp ha rfl) (ev_tmp ha rfl), ?_⟩
      | (refine ⟨_, addrW, ?_⟩)
      | (refine ⟨_, addrT (by decide), ?_⟩)
      | (refine ⟨_, addrD (by decide), ?_⟩)
      | (refine ⟨_, cell_load ag3 hgw rfl, ?_⟩)
      | (refine ⟨_, cell_load ag3 hgd rfl, ?_⟩)
      | (refine ⟨_, cell_load ag32 hgw rfl, ?_⟩)
      | refine ⟨_, hgr.alen, ?_⟩
      | (refine ⟨fun _ => ?_, fun _ => ?_⟩ <;> first | (exfalso; omega) | skip)
      | fail
    all_goals exact ⟨rfl, by rw [e1], fin 13 e1 (by decide)⟩
  rw [if_neg h3] at e0
  repeat' first
    | refine CO.cons rfl ?_
    | refine CO.nil ?_
    | refine CV.seq ?_
    | refine CV.region callees ?_
    | refine CV.cond ?_
    | refine CV.block ?_
    | refine CV.skip ?_
    | refine CV.exit ?_
    | refine CV.ret ?_
    | refine CV.scope ?_
    | refine CV.draw callees rfl ?_
    | refine CH.cons rfl ?_
    | refine CH.nil ?_
    | refine CO.consG rfl ?_
    | refine CH.consG rfl ?_
    | refine CG.cons rfl ?_
    | refine CR.cons ?_
    | refine CR.nil ?_
    | refine CG.nil ?_
    | refine CG.consG rfl ?_
    | refine ⟨(rfl : plain _ = true), ?_⟩
    | refine ⟨(rfl : nilOk _ = some _), ?_⟩
    | refine ⟨_, ints_len (by assumption), ?_⟩
    | refine ⟨_, ints_addr (by assumption) (by omega) (by omega), ?_⟩
    | refine ⟨_, ints_load (by assumption) (by omega) (by omega), ?_⟩
    | refine ⟨(⟨by omega, by omega⟩ : inI64 _), ?_⟩
    | refine ⟨_, fun tm ha => step1_max rfl (ev_tmp ha rfl) (ev_tmp ha rfl), ?_⟩
    | refine ⟨_, fun tm ha => step1_min rfl (ev_tmp ha rfl) (ev_tmp ha rfl), ?_⟩
    | (refine ⟨_, addrW, ?_⟩)
    | (refine ⟨_, addrT (by decide), ?_⟩)
    | (refine ⟨_, addrD (by decide), ?_⟩)
    | (refine ⟨_, cell_load ag3 hgw rfl, ?_⟩)
    | (refine ⟨_, cell_load ag3 hgd rfl, ?_⟩)
    | (refine ⟨_, cell_load ag32 hgw rfl, ?_⟩)
    | refine ⟨_, hgr.alen, ?_⟩
    | (refine ⟨fun _ => ?_, fun _ => ?_⟩ <;> first | (exfalso; omega) | skip)
    | fail
  refine (number_spec (by omega)).mono ?_
  rintro r H2 ⟨rfl, rfl⟩
  cases h4 : okN d.nm with
  | false =>
    have e1 : doE t d = 2 := by rw [e0, if_neg (by rw [h4]; decide)]
    repeat' first
      | refine CO.cons rfl ?_
      | refine CO.nil ?_
      | refine CV.seq ?_
      | refine CV.region callees ?_
      | refine CV.cond ?_
      | refine CV.block ?_
      | refine CV.skip ?_
      | refine CV.exit ?_
      | refine CV.ret ?_
      | refine CV.scope ?_
      | refine CV.draw callees rfl ?_
      | refine CH.cons rfl ?_
      | refine CH.nil ?_
      | refine CO.consG rfl ?_
      | refine CH.consG rfl ?_
      | refine CG.cons rfl ?_
      | refine CR.cons ?_
      | refine CR.nil ?_
      | refine CG.nil ?_
      | refine CG.consG rfl ?_
      | refine ⟨(rfl : plain _ = true), ?_⟩
      | refine ⟨(rfl : nilOk _ = some _), ?_⟩
      | refine ⟨_, ints_len (by assumption), ?_⟩
      | refine ⟨_, ints_addr (by assumption) (by omega) (by omega), ?_⟩
      | refine ⟨_, ints_load (by assumption) (by omega) (by omega), ?_⟩
      | refine ⟨(⟨by omega, by omega⟩ : inI64 _), ?_⟩
      | refine ⟨_, fun tm ha => step1_max rfl (ev_tmp ha rfl) (ev_tmp ha rfl), ?_⟩
      | refine ⟨_, fun tm ha => step1_min rfl (ev_tmp ha rfl) (ev_tmp ha rfl), ?_⟩
      | (refine ⟨fun _ => ?_, fun _ => ?_⟩ <;> first | (exfalso; omega) | skip)
      | fail
    exact ⟨rfl, by rw [e1], fin 2 e1 (by decide)⟩
  | true =>
    have e1 : doE t d = 0 := by rw [e0, if_pos h4]
    have hgl : d.gs.toNat < t.rs.length := by omega
    obtain ⟨r1, r2, r3⟩ := hv.row d.gs.toNat hgl
    have hro := hws.own.at' d.gs.toNat hgl
    have hri : Ints H2 vals[d.gs.toNat]! t.rs[d.gs.toNat]! := hro.row
    repeat' first
      | refine CO.cons rfl ?_
      | refine CO.nil ?_
      | refine CV.seq ?_
      | refine CV.region callees ?_
      | refine CV.cond ?_
      | refine CV.block ?_
      | refine CV.skip ?_
      | refine CV.exit ?_
      | refine CV.ret ?_
      | refine CV.scope ?_
      | refine CV.draw callees rfl ?_
      | refine CH.cons rfl ?_
      | refine CH.nil ?_
      | refine CO.consG rfl ?_
      | refine CH.consG rfl ?_
      | refine CG.cons rfl ?_
      | refine CR.cons ?_
      | refine CR.nil ?_
      | refine CG.nil ?_
      | refine CG.consG rfl ?_
      | refine ⟨(rfl : plain _ = true), ?_⟩
      | refine ⟨(rfl : nilOk _ = some _), ?_⟩
      | refine ⟨_, ints_len (by assumption), ?_⟩
      | refine ⟨_, ints_addr (by assumption) (by omega) (by omega), ?_⟩
      | refine ⟨_, ints_load (by assumption) (by omega) (by omega), ?_⟩
      | refine ⟨(⟨by omega, by omega⟩ : inI64 _), ?_⟩
      | refine ⟨_, fun tm ha => step1_max rfl (ev_tmp ha rfl) (ev_tmp ha rfl), ?_⟩
      | refine ⟨_, fun tm ha => step1_min rfl (ev_tmp ha rfl) (ev_tmp ha rfl), ?_⟩
      | (refine ⟨_, addrW, ?_⟩)
      | (refine ⟨_, addrT (by decide), ?_⟩)
      | (refine ⟨_, addrD (by decide), ?_⟩)
      | (refine ⟨_, cell_load ag3 hgd rfl, ?_⟩)
      | (refine ⟨_, cell_load ag32 hgw rfl, ?_⟩)
      | (refine ⟨_, hgr.addr (by omega) (by omega), ?_⟩)
      | (refine ⟨_, hgr.load (by omega) (by omega), ?_⟩)
      | (refine ⟨fun _ => ?_, fun _ => ?_⟩ <;> first | (exfalso; omega) | skip)
      | fail
    refine put_ask (i := d.pc.toNat) hro (by omega) (by omega) ?_
    intro H3 ho3 kb3
    repeat' first
      | refine CO.cons rfl ?_
      | refine CO.nil ?_
      | refine CV.seq ?_
      | refine CV.region callees ?_
      | refine CV.cond ?_
      | refine CV.block ?_
      | refine CV.skip ?_
      | refine CV.exit ?_
      | refine CV.ret ?_
      | refine CV.scope ?_
      | refine CV.draw callees rfl ?_
      | refine CH.cons rfl ?_
      | refine CH.nil ?_
      | refine CO.consG rfl ?_
      | refine CH.consG rfl ?_
      | refine CG.cons rfl ?_
      | refine CR.cons ?_
      | refine CR.nil ?_
      | refine CG.nil ?_
      | refine CG.consG rfl ?_
      | refine ⟨(rfl : plain _ = true), ?_⟩
      | refine ⟨(rfl : nilOk _ = some _), ?_⟩
      | refine ⟨_, ints_len (by assumption), ?_⟩
      | refine ⟨_, ints_addr (by assumption) (by omega) (by omega), ?_⟩
      | refine ⟨_, ints_load (by assumption) (by omega) (by omega), ?_⟩
      | refine ⟨(⟨by omega, by omega⟩ : inI64 _), ?_⟩
      | refine ⟨_, fun tm ha => step1_max rfl (ev_tmp ha rfl) (ev_tmp ha rfl), ?_⟩
      | refine ⟨_, fun tm ha => step1_min rfl (ev_tmp ha rfl) (ev_tmp ha rfl), ?_⟩
      | (refine ⟨fun _ => ?_, fun _ => ?_⟩ <;> first | (exfalso; omega) | skip)
      | fail
    have hdt : doT t d = {t with rs := put2 t.rs d.gs.toNat d.pc.toNat d.nm} := by unfold doT; rw [if_pos e1, doN_write hd]
    refine ⟨rfl, by rw [e1], by rw [hdt]; exact hws.write hgl ho3 kb3, ?_⟩
    exact (keep_w k1 _ _ _).trans ⟨kb3.le, fun c hc _ hv => kb3.get c hc (hv _ hgl)⟩
end Go.Proofs.Ytcpklnekpdhlmaa
