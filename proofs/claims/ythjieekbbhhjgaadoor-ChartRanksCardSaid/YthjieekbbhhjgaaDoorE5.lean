/- The abstract machine and the model: operations that write nothing and make no memory. -/
import Derived.Test.YthjieekbbhhjgaaDoorE4
namespace Go.AI
open Go.RowKit
section
variable {P : Program} {B : Nat} {ρ : Ren} {H : Heap} {w : World} {tm : Tm} {a : Act}

structure FR (ρ : Ren) (tm : Tm) (a : Act) : Prop where
  at_ : ∀ i, VT ρ (Tm.at tm i) (a.tmps.getD i undef)
  none : a.defers = []

theorem FR.mono {ρ' : Ren} (h : FR ρ tm a) (hρ : Ren.le ρ ρ') : FR ρ' tm a := ⟨fun i => (h.at_ i).mono hρ, h.none⟩

theorem ev_sound (hH : HR P B ρ H w) (hF : FR ρ tm a) {x : Operand} {v : Value} (h : ev P tm x = some v) : VT ρ v (a.eval x) := by
  cases x with
  | tmp t => simp only [ev, Option.some.injEq] at h; subst h; exact hF.at_ t
  | const c => simp only [ev] at h; split at h <;> cases h; rename_i hp; exact VT.of_plain hp
  | global g =>
    simp only [ev] at h; split at h <;> cases h
    rename_i hg
    obtain ⟨c, hc⟩ := hH.glob g hg
    exact .one (.cell (.ptr (i := 0) hc))
  | func f => simp only [ev, Option.some.injEq] at h; subst h; exact VT.of_plain rfl

theorem run_sz {t n : Nat} (h : sizeB P t = some n) (w : World) : (sizeOf t).run P w = .ok n w := by
  unfold sizeB at h
  cases hi : P.info? t with
  | none => rw [hi] at h; cases h
  | some i => rw [hi] at h; simp at h; subst h; simp [sizeOf, typeInfo, hi]
theorem run_ag {t : Nat} {b : Bool} (h : isAggB P t = some b) (w : World) : (isAgg t).run P w = .ok b w := by
  unfold isAggB at h
  cases hd : P.underlying t with
  | none => rw [hd] at h; cases h
  | some d =>
    rw [hd] at h
    unfold isAgg
    rw [Sem.run_bind, run_underlying hd, Result.andThen_ok]
    cases d <;> simp at h <;> subst h <;> rfl

/-- A value that is yielded in every world that has grown out of w. -/
def QY (P : Program) (ρ : Ren) (w : World) (v : Value) (s : Sem Value) : Prop :=
  ∃ v', VT ρ v v' ∧ ∀ w1, Below w.heap.size w w1 → s.run P w1 = .ok v' w1

theorem QY.pure {v v' : Value} (h : VT ρ v v') : QY P ρ w v (Pure.pure v') := ⟨v', h, fun _ _ => rfl⟩

theorem addr_add (b i j : Nat) : (⟨b, i, none⟩ : Addr).add j = ⟨b, i + j, none⟩ := by
  unfold Addr.add; split
  · next h => subst h; rfl
  · rfl

/-- The cells of an abstract block, read in a later world. -/
theorem HR.cellsAt (hH : HR P B ρ H w) {b : Nat} {cs : List Value} {elem k : Nat} {e : Ent} (hg : H.get b = some (.cells cs elem k)) (hρ : ρ b = some e) :
    ∃ ys, L2 (VC ρ) cs ys ∧ ∀ w1, Below w.heap.size w w1 → ∀ (i : Nat) (v : Value), ys[i]? = some v → w1.cell? ⟨e.blk, e.base + i, none⟩ = some v := by
  obtain ⟨ys, h1, h2⟩ := (hH.obj b _ e hg hρ).read
  exact ⟨ys, h1, fun w1 hb i v hv => by rw [hb.cell (p := ⟨e.blk, e.base + i, none⟩) (hH.top b e hρ)]; exact h2 i v hv⟩

theorem HR.ptr (hH : HR P B ρ H w) {b : Nat} {o : AObj} (hg : H.get b = some o) : ∃ e, ρ b = some e := hH.dom b (hH.objs b o hg)

theorem vt_ptr {b i : Nat} {v' : Value} (h : VT ρ (.pointer (some ⟨b, i, none⟩)) v') : ∃ e, ρ b = some e ∧ v' = .pointer (some ⟨e.blk, e.base + i, none⟩) := by
  cases h with
  | one h => cases h with
    | cell h => cases h with
      | same hs => simp [scalar] at hs
      | ptr h => exact ⟨_, h, rfl⟩
theorem vt_sl {b i n c : Nat} {v' : Value} (h : VT ρ (.slice (some ⟨b, i, none⟩) n c) v') : ∃ e c', ρ b = some e ∧ n ≤ c' ∧ (c = 0 → i = 0 ∧ e.base = 0 ∧ c' = e.cap) ∧ v' = .slice (some ⟨e.blk, e.base + i, none⟩) n c' := by
  cases h with
  | one h => cases h with
    | cell h => cases h with
      | same hs => simp [scalar] at hs
      | sl h hn h0 => exact ⟨_, _, h, hn, h0, rfl⟩
theorem vt_anon {x y z : Nat} {v' : Value} (h : VT ρ (.slice (some ⟨x, y, some z⟩) 0 0) v') : ∃ a' c', v' = .slice (some a') 0 c' := by
  cases h with
  | one h => cases h with
    | cell h => cases h with
      | same hs => simp [scalar] at hs
      | anon a' c' => exact ⟨a', c', rfl⟩
theorem vt_int {k : IntKind} {n : Int} {v' : Value} (h : VT ρ (.int k n) v') : v' = .int k n := h.plain rfl
theorem vt_bool {b : Bool} {v' : Value} (h : VT ρ (.bool b) v') : v' = .bool b := h.plain rfl
theorem vt_str {s : ByteArray} {v' : Value} (h : VT ρ (.string s) v') : v' = .string s := h.plain rfl
theorem vt_nil {v' : Value} (h : VT ρ (.slice none 0 0) v') : v' = .slice none 0 0 := h.plain rfl
theorem vt_agg {cs : Array Value} {v' : Value} (h : VT ρ (.agg cs) v') : ∃ cs', v' = .agg cs' ∧ L2 (VC ρ) cs.toList cs'.toList := by
  cases h with
  | one h => cases h with
    | agg h => exact ⟨_, rfl, h⟩
    | cell h => cases h with
      | same hs => simp [scalar] at hs
theorem vt_tup {vs : Array Value} {v' : Value} (h : VT ρ (.tuple vs) v') : ∃ vs', v' = .tuple vs' ∧ L2 (VR ρ) vs.toList vs'.toList := by
  cases h with
  | tup h => exact ⟨_, rfl, h⟩
  | one h => cases h with
    | cell h => cases h with
      | same hs => simp [scalar] at hs

theorem q_load (hH : HR P B ρ H w) {t : TypeId} {x v x' : Value} (hx : VT ρ x x') (h : aload P t H x = some v) : QY P ρ w v (Instr.loadAt t x') := by
  unfold aload at h
  split at h
  · rename_i b i
    split at h
    · rename_i cs elem k hg
      obtain ⟨e, hρ, rfl⟩ := vt_ptr hx
      obtain ⟨ys, h2, hc⟩ := hH.cellsAt hg hρ
      split at h
      · rename_i hag
        split at h
        · rename_i n hn
          split at h <;> cases h
          rename_i hle
          have hl : ((ys.drop i).take n).length = n := by have := h2.length; simp; omega
          refine ⟨.agg ((ys.drop i).take n).toArray, .one (.agg (by simpa using (h2.drop i).take n)), fun w1 hb => ?_⟩
          have := run_loadCells_list (P := P) (w := w1) ⟨e.blk, e.base + i, none⟩ ((ys.drop i).take n) (fun j u hu => by
            rw [addr_add, Nat.add_assoc]
            refine hc w1 hb _ _ ?_
            rw [List.getElem?_take] at hu
            split at hu
            · simpa [List.getElem?_drop] using hu
            · cases hu)
          rw [hl] at this
          simp [Instr.loadAt, Instr.sureAddr, loadVar, run_ag hag, run_sz hn, this]
        · cases h
      · rename_i hag
        obtain ⟨y, hy, hr⟩ := h2.get h
        refine ⟨y, .one (.cell hr), fun w1 hb => ?_⟩
        simp [Instr.loadAt, Instr.sureAddr, loadVar, run_ag hag, run_load, hc w1 hb _ _ hy]
      · cases h
    · cases h
  · cases h

theorem q_nil {x v x' : Value} (hx : VT ρ x x') (h : nilOk x = some v) : VT ρ v x' ∧ (∃ a, x' = .pointer (some a)) ∨ VT ρ v x' ∧ (∃ f y z, x' = .func (.func f) y z) := by
  unfold nilOk at h
  split at h <;> cases h
  · rename_i ad
    left
    refine ⟨hx, ?_⟩
    cases hx with
    | one h => cases h with
      | cell h => cases h with
        | same hs => simp [scalar] at hs
        | ptr h => exact ⟨_, rfl⟩
  · right
    refine ⟨hx, ?_⟩
    cases hx with
    | one h => cases h with
      | cell h => cases h with
        | same hs => exact ⟨_, _, _, rfl⟩
        | fn h1 h2 => exact ⟨_, _, _, rfl⟩

theorem q_fieldAddr {s : TypeId} {f : Nat} {x v x' : Value} (hx : VT ρ x x') (h : afieldAddr P s x f = some v) : QY P ρ w v (Instr.fieldAt s x' f) := by
  unfold afieldAddr at h
  split at h
  · rename_i fs b i hu
    split at h
    · rename_i fd hf
      split at h
      · cases h
      · rename_i n hne hn
        cases h
        obtain ⟨e, hρ, rfl⟩ := vt_ptr hx
        refine ⟨_, .one (.cell (.ptr (i := i + fd.offset) hρ)), fun w1 _ => ?_⟩
        have hne' : ¬ n = 0 := fun h0 => by subst h0; exact hne rfl
        simp [Instr.fieldAt, run_underlying hu, hf, Instr.sureAddr, fieldPlace, run_sz hn, hne', addr_add, Nat.add_assoc]
      · cases h
    · cases h
  · cases h

theorem asIdx_int {x : Value} {k : Int} (h : asIdx x = some k) : ∃ kd, x = .int kd k := by
  cases x <;> simp [asIdx] at h
  subst h; exact ⟨_, rfl⟩

theorem q_indexAddr {t : TypeId} {x ix v x' ix' : Value} (hx : VT ρ x x') (hi : VT ρ ix ix') (h : aindexAddr P t x ix = some v) : QY P ρ w v (Instr.indexAt t x' ix') := by
  unfold aindexAddr at h
  split at h
  · cases h
  · rename_i k hk
    obtain ⟨kd, rfl⟩ := asIdx_int hk
    rw [vt_int hi]
    split at h
    · rename_i len elem b i hu
      split at h
      · rename_i s hs
        split at h <;> cases h
        rename_i hb
        obtain ⟨e, hρ, rfl⟩ := vt_ptr hx
        refine ⟨_, .one (.cell (.ptr (i := i + k.toNat * s) hρ)), fun w1 _ => ?_⟩
        simp [Instr.indexAt, asIntOf, run_underlying hu, Instr.sureAddr, run_sz hs, hb, addr_add, Nat.add_assoc]
      · cases h
    · rename_i elem b i n c hu
      split at h
      · rename_i s hs
        split at h <;> cases h
        rename_i hb
        obtain ⟨e, c', hρ, hn, h0, rfl⟩ := vt_sl hx
        refine ⟨_, .one (.cell (.ptr (i := i + k.toNat * s) hρ)), fun w1 _ => ?_⟩
        simp [Instr.indexAt, asIntOf, run_underlying hu, run_sz hs, hb, addr_add, Nat.add_assoc]
      · cases h
    · cases h

theorem q_part {t : TypeId} {cs cs' : Array Value} {off : Nat} {v : Value} (hc : L2 (VC ρ) cs.toList cs'.toList) (h : apart' P t cs.toList off = some v) : QY P ρ w v (part t cs' off) := by
  unfold apart' at h
  split at h
  · rename_i hag
    split at h <;> cases h
    rename_i n hn
    refine ⟨.agg (cs'.extract off (off + n)), .one (.agg ?_), fun w1 _ => ?_⟩
    · have h1 := (hc.drop off).take n
      simpa [Array.toList_extract, List.extract_eq_take_drop] using h1
    · simp [part, run_ag hag, run_sz hn]
  · rename_i hag
    obtain ⟨y, hy, hr⟩ := hc.get h
    refine ⟨y, .one (.cell hr), fun w1 _ => ?_⟩
    have : cs'[off]? = some y := by simpa using hy
    simp [part, run_ag hag, this]
  · cases h

theorem q_field {t : TypeId} {f : Nat} {x v x' : Value} (hx : VT ρ x x') (h : afield P t x f = some v) : QY P ρ w v (Instr.field t x' f) := by
  unfold afield at h
  split at h
  · rename_i fs cs hu
    split at h
    · rename_i fd hf
      obtain ⟨cs', rfl, hc⟩ := vt_agg hx
      obtain ⟨v', h1, h2⟩ := q_part (w := w) hc h
      refine ⟨v', h1, fun w1 hb => ?_⟩
      simp [Instr.field, run_underlying hu, hf, asAgg, h2 w1 hb]
    · cases h
  · cases h

theorem q_index {t : TypeId} {x ix v x' ix' : Value} (hx : VT ρ x x') (hi : VT ρ ix ix') (h : aindex P t x ix = some v) : QY P ρ w v (Instr.index t x' ix') := by
  unfold aindex at h
  split at h
  · cases h
  · rename_i k hk
    obtain ⟨kd, rfl⟩ := asIdx_int hk
    rw [vt_int hi]
    split at h
    · rename_i len elem cs hu
      split at h
      · rename_i s hs
        split at h
        · rename_i hb
          obtain ⟨cs', rfl, hc⟩ := vt_agg hx
          obtain ⟨v', h1, h2⟩ := q_part (w := w) hc h
          refine ⟨v', h1, fun w1 hb' => ?_⟩
          simp [Instr.index, asIntOf, run_underlying hu, run_sz hs, hb, h2 w1 hb']
        · cases h
      · cases h
    · rename_i s hu
      split at h
      · rename_i h0
        split at h <;> cases h
        rename_i b hb
        rw [vt_str hx]
        refine ⟨_, VT.of_plain (v := .int .u8 b.toNat) rfl, fun w1 _ => ?_⟩
        simp [Instr.index, asIntOf, run_underlying hu, h0, hb]
      · cases h
    · cases h

end
end Go.AI
