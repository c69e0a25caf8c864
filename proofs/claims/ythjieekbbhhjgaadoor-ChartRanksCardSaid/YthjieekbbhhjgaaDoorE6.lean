/- The abstract machine and the model: more operations that write nothing. -/
import Derived.Test.YthjieekbbhhjgaaDoorE5
namespace Go.AI
open Go.RowKit
section
variable {P : Program} {B : Nat} {ρ : Ren} {H : Heap} {w : World} {tm : Tm} {a : Act}

theorem run_bound (hH : HR P B ρ H w) (hF : FR ρ tm a) {x : Option Operand} {d l : Int} {d' y : Nat} (h : bound (optEv P tm x) d = some l) (h0 : 0 ≤ l) (hy : l ≤ y) (hd : d = d') (code : BoundsCode) (w1 : World) :
    (match x.map a.eval with | some v => Instr.sliceBound v y code | none => pure d' : Sem Nat).run P w1 = .ok l.toNat w1 := by
  cases x with
  | none => simp [optEv, bound] at h; subst h; subst hd; simp
  | some o =>
    simp only [optEv] at h
    cases hv : ev P tm o with
    | none => rw [hv] at h; simp [bound] at h
    | some v =>
      rw [hv] at h
      have := ev_sound hH hF hv
      cases v <;> simp [bound] at h
      subst h
      rw [Option.map_some, vt_int this]
      simp [Instr.sliceBound, asIntOf, h0, hy]

theorem run_bounds (hH : HR P B ρ H w) (hF : FR ρ tm a) {lo hi : Option Operand} {n cap : Nat} {l h : Int} (hl : bound (optEv P tm lo) 0 = some l) (hh : bound (optEv P tm hi) n = some h) (h0 : 0 ≤ l) (h1 : l ≤ h) (h2 : h ≤ cap) (s : Bool) (w1 : World) :
    (Instr.sliceBounds s n cap (lo.map a.eval) (hi.map a.eval) none).run P w1 = .ok (l.toNat, h.toNat, cap) w1 := by
  have e1 := run_bound hH hF (d' := n) (y := cap) hh (by omega) h2 rfl (if s then .sliceAcap else .sliceAlen) w1
  have e2 := run_bound hH hF (d' := 0) (y := h.toNat) hl h0 (by omega) rfl .sliceB w1
  unfold Instr.sliceBounds
  cases hx : lo.map a.eval <;> cases hy : hi.map a.eval <;> rw [hx] at e2 <;> rw [hy] at e1 <;> simp at e1 e2 ⊢ <;> simp [e1, e2]

theorem q_slice (hH : HR P B ρ H w) (hF : FR ρ tm a) {t : TypeId} {x v x' : Value} {lo hi : Option Operand} (hx : VT ρ x x') (h : aslice P t x (optEv P tm lo) (optEv P tm hi) = some v) :
    QY P ρ w v (Instr.sliceAt t x' (lo.map a.eval) (hi.map a.eval) none) := by
  unfold aslice at h
  split at h
  · rename_i s hu
    split at h
    · rename_i l h' hl hh
      split at h <;> cases h
      rename_i hb
      rw [vt_str hx]
      refine ⟨_, VT.of_plain (v := .string (s.extract l.toNat h'.toNat)) rfl, fun w1 _ => ?_⟩
      have := run_bounds hH hF (cap := s.size) hl hh hb.1 hb.2.1 (by omega) false w1
      simp [Instr.sliceAt, Instr.slice, run_underlying hu, this]
    · cases h
  · rename_i elem b i n c hu
    split at h
    · rename_i s l h' hs hl hh
      split at h
      · rename_i hb
        obtain ⟨e, c', hρ, hn, h0, rfl⟩ := vt_sl hx
        have hbd := fun w1 => run_bounds hH hF (cap := c') hl hh hb.1 hb.2.1 (by omega) true w1
        have hrun : ∀ w1, (Instr.sliceAt t (.slice (some ⟨e.blk, e.base + i, none⟩) n c') (lo.map a.eval) (hi.map a.eval) none).run P w1 =
            .ok (.slice (if c' = l.toNat then some ⟨e.blk, e.base + i, none⟩ else some ⟨e.blk, e.base + i + l.toNat * s, none⟩) (h'.toNat - l.toNat) (c' - l.toNat)) w1 := fun w1 => by
          simp [Instr.sliceAt, Instr.slice, run_underlying hu, hbd w1, run_sz hs, addr_add]
        split at h
        · rename_i hl0
          cases h
          subst hl0
          refine ⟨_, .one (.cell (.sl (n := h'.toNat) (c' := c') hρ (by omega) h0)), fun w1 _ => ?_⟩
          rw [hrun w1]
          simp
        · rename_i hl0
          split at h
          · rename_i hlh
            cases h
            subst hlh
            by_cases hc : c' = l.toNat
            · exact ⟨_, .one (.cell (.anon ⟨e.blk, e.base + i, none⟩ (c' - l.toNat))), fun w1 _ => by rw [hrun w1, if_pos hc]; simp⟩
            · exact ⟨_, .one (.cell (.anon ⟨e.blk, e.base + i + l.toNat * s, none⟩ (c' - l.toNat))), fun w1 _ => by rw [hrun w1, if_neg hc]; simp⟩
          · rename_i hlh
            cases h
            have hc : ¬ c' = l.toNat := by omega
            refine ⟨_, .one (.cell (.sl (i := i + l.toNat * s) (n := (h' - l).toNat) (c' := c' - l.toNat) hρ (by omega) (fun hc0 => by omega))), fun w1 _ => ?_⟩
            rw [hrun w1, if_neg hc, Nat.add_assoc]
            congr 2
            omega
      · cases h
    · cases h
  · rename_i elem hu
    split at h
    · rename_i s l h' hs hl hh
      split at h <;> cases h
      rename_i hb
      obtain ⟨rfl, rfl⟩ := hb
      rw [vt_nil hx]
      refine ⟨_, VT.of_plain (v := .slice none 0 0) rfl, fun w1 _ => ?_⟩
      have := run_bounds hH hF (n := 0) (cap := 0) hl (by simpa using hh) (Int.le_refl _) (Int.le_refl _) (by simp) true w1
      simp [Instr.sliceAt, Instr.slice, run_underlying hu, this, run_sz hs]
    · cases h
  · rename_i elem x0 y0 z0 hu
    split at h
    · rename_i s l h' hs hl hh
      split at h <;> cases h
      rename_i hb
      obtain ⟨rfl, rfl⟩ := hb
      obtain ⟨a', c', rfl⟩ := vt_anon hx
      have := fun w1 => run_bounds hH hF (n := 0) (cap := c') hl (by simpa using hh) (Int.le_refl _) (Int.le_refl _) (by simp) true w1
      refine ⟨_, .one (.cell (.anon a' c')), fun w1 _ => ?_⟩
      simp [Instr.sliceAt, Instr.slice, run_underlying hu, this w1, run_sz hs, Addr.add]
    · cases h
  · rename_i n elem b i hu
    split at h
    · rename_i s l h' hs hl hh
      split at h <;> cases h
      rename_i hb
      obtain ⟨e, hρ, rfl⟩ := vt_ptr hx
      have hbd := fun w1 => run_bounds hH hF (n := n) (cap := n) hl hh hb.1 (by omega) (by omega) false w1
      have hc : ¬ n = l.toNat := by omega
      refine ⟨_, .one (.cell (.sl (i := i + l.toNat * s) (n := (h' - l).toNat) (c' := n - l.toNat) hρ (by omega) (fun hc0 => by omega))), fun w1 _ => ?_⟩
      simp [Instr.sliceAt, run_underlying hu, Instr.sureAddr, hbd w1, run_sz hs, addr_add, hc, Nat.add_assoc]
      omega
    · cases h
  · cases h

theorem q_extract {v x' : Value} {i : Nat} {vs : Array Value} (hx : VT ρ (.tuple vs) x') (h : vs.toList[i]? = some v) : QY P ρ w v (Instr.extract x' i) := by
  obtain ⟨vs', rfl, hl⟩ := vt_tup hx
  obtain ⟨y, hy, hr⟩ := hl.get h
  refine ⟨y, .one hr, fun w1 _ => ?_⟩
  have : vs'[i]? = some y := by simpa using hy
  simp [Instr.extract, this]

theorem vt_slice {ad : Option Addr} {n c : Nat} {v' : Value} (h : VT ρ (.slice ad n c) v') : ∃ ad' c', v' = .slice ad' n c' := by
  cases h with
  | one h => cases h with
    | cell h => cases h with
      | same hs => exact ⟨_, _, rfl⟩
      | sl h hn h0 => exact ⟨_, _, rfl⟩
      | anon a' c' => exact ⟨_, _, rfl⟩
theorem vt_map {b : Nat} {v' : Value} (h : VT ρ (.map (some b)) v') : ∃ e, ρ b = some e ∧ v' = .map (some e.blk) := by
  cases h with
  | one h => cases h with
    | cell h => cases h with
      | same hs => simp [scalar] at hs
      | map h => exact ⟨_, h, rfl⟩

theorem q_len (hH : HR P B ρ H w) {t : TypeId} {ts : Array TypeId} {ty : TypeId} {x v x' : Value} (hx : VT ρ x x') (h : alen P H t x = some v) (hts : ts.toList = [t]) : QY P ρ w v (Builtin.len_ ts ty #[x']) := by
  have ht : ts[0]? = some t := by rw [← Array.getElem?_toList, hts]; rfl
  unfold alen at h
  split at h
  · rename_i s hu
    cases h; rw [vt_str hx]
    exact ⟨_, VT.of_plain rfl, fun w1 _ => by simp [Builtin.len_, ht, run_underlying hu, goInt]⟩
  · rename_i e ad n c hu
    cases h
    obtain ⟨ad', c', rfl⟩ := vt_slice hx
    exact ⟨_, VT.of_plain rfl, fun w1 _ => by simp [Builtin.len_, ht, run_underlying hu, goInt]⟩
  · rename_i n e hu
    cases h
    exact ⟨_, VT.of_plain rfl, fun w1 _ => by simp [Builtin.len_, ht, run_underlying hu, goInt]⟩
  · rename_i k e hu
    cases h
    rw [hx.plain rfl]
    exact ⟨_, VT.of_plain rfl, fun w1 _ => by simp [Builtin.len_, ht, run_underlying hu, goInt]⟩
  · rename_i k e r hu
    split at h <;> cases h
    rename_i es hg
    obtain ⟨en, hρ, rfl⟩ := vt_map hx
    obtain ⟨_, ents, clock, hh, hl⟩ := hH.obj _ _ _ hg hρ
    refine ⟨_, VT.of_plain rfl, fun w1 hb => ?_⟩
    have hh1 : w1.heap[en.blk]? = some (.map ents clock) := by rw [hb.block _ (hH.top _ _ hρ)]; exact hh
    have hlen : es.length = ents.size := by simpa using hl.length
    simp [Builtin.len_, ht, run_underlying hu, goInt, getObj, Sem.run, hh1, hlen]
  · rename_i a' hu
    split at h <;> cases h
    rename_i n e hu2
    exact ⟨_, VT.of_plain rfl, fun w1 _ => by simp [Builtin.len_, ht, run_underlying hu, run_underlying hu2, goInt]⟩
  · cases h

/-! ### Operations without memory -/
theorem pureRun_run {α : Type} (P : Program) : ∀ (s : Sem α) (r : α), pureRun P s = some r → ∀ w, s.run P w = .ok r w := by
  intro s
  induction s with
  | pure a => intro r h w; simp only [pureRun, Option.some.injEq] at h; subst h; rfl
  | program k ih => intro r h w; simp only [pureRun] at h; simpa [Sem.run] using ih P r h w
  | mark m k ih => intro r h w; simp only [pureRun] at h; simpa [Sem.run] using ih r h w
  | _ => intro r h w; simp [pureRun] at h

theorem q_pure (hH : HR P B ρ H w) (hF : FR ρ tm a) {o : Oper} {v : Value} (h : apure P tm o = some v) : VT ρ v v ∧ ∀ w1, (execOp a.eval o).run P w1 = .ok (.value v) w1 := by
  unfold apure at h
  split at h
  · rename_i hall
    have hops : ∀ x ∈ o.op.operands, evT tm x = a.eval x := fun x hx => by
      have := List.all_eq_true.1 hall x (by simpa using hx)
      cases hv : ev P tm x with
      | none => rw [hv] at this; cases this
      | some u =>
        rw [hv] at this
        have h1 := (ev_sound hH hF hv).plain this
        rw [h1]
        cases x <;> simp [ev, evT] at hv ⊢
        · exact hv
        · exact hv.2
        · exact hv.2
        · exact hv
    split at h
    · cases h
    · rename_i hsel
      split at h
      · rename_i u hp
        split at h <;> cases h
        rename_i hpl
        have e := execOp_congr (ρ := evT tm) (ρ' := a.eval) o (fun cs b hc => hsel cs b hc) hops
        refine ⟨VT.of_plain hpl, fun w1 => ?_⟩
        rw [← e]; exact pureRun_run P _ _ hp w1
      · cases h
  · cases h

theorem abin_run {op : BinOp} {x y v : Value} {t : TypeId} {xo yo : Operand} (h : abin op x y = some v) (w1 : World) : plain v = true ∧
    ((do eqGuard op t xo yo x y; binOp op t x y : Sem Value)).run P w1 = .ok v w1 := by
  unfold abin at h
  split at h
  · rename_i k p j q
    split at h
    · rename_i hkj
      subst hkj
      cases op <;> simp at h <;> subst h <;> refine ⟨rfl, ?_⟩ <;> simp [eqGuard, binOp, Op.intArith, Op.intCmp]
    · cases h
  · cases h

end
end Go.AI
