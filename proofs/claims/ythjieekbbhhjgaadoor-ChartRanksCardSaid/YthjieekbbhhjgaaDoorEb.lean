/- The abstract machine and the model: one operation that calls no function. -/
import Derived.Test.YthjieekbbhhjgaaDoorEa
namespace Go.AI
open Go.RowKit
section
variable {P : Program} {B : Nat} {ρ : Ren} {H : Heap} {w : World} {tm : Tm} {a : Act}

def NxIs (nx : Next) (v' : Value) : Prop := nx = .value v' ∨ (nx = .skip ∧ v' = undef)

def nv (s : Sem Value) : Sem Next := do pure (Next.value (← s))
def nu (s : Sem Unit) : Sem Next := do s; pure Next.skip

/-- An operation that is quiet. -/
def QO (P : Program) (ρ : Ren) (w : World) (a : Act) (o : Oper) (v : Value) : Prop :=
  ∃ v', VT ρ v v' ∧ ∀ w1, Below w.heap.size w w1 → (execOp a.eval o).run P w1 = .ok (.value v') w1

/-- An operation, whatever it does. -/
def YO (P : Program) (B : Nat) (ρ : Ren) (w : World) (a : Act) (o : Oper) (v : Value) (H' : Heap) (lo : Nat) : Prop :=
  ∃ ρ' nx v' w', (execOp a.eval o).run P w = .ok nx w' ∧ NxIs nx v' ∧ VT ρ' v v' ∧ HR P B ρ' H' w' ∧ Ext B ρ ρ' lo w w'

theorem QO.yo (hH : HR P B ρ H w) {o : Oper} {v : Value} (h : QO P ρ w a o v) (lo : Nat) : YO P B ρ w a o v H lo := by
  obtain ⟨v', h1, h2⟩ := h
  exact ⟨ρ, _, v', w, h2 w (Below.refl _ _), .inl rfl, h1, hH, Ext.refl _ _ _ _⟩
theorem QY.qo {o : Oper} {v : Value} {s : Sem Value} (h : QY P ρ w v s) (he : execOp a.eval o = nv s) : QO P ρ w a o v := by
  obtain ⟨v', h1, h2⟩ := h
  exact ⟨v', h1, fun w1 hb => by rw [he]; simp [nv, h2 w1 hb]⟩
theorem YD.yo {o : Oper} {v : Value} {H' : Heap} {lo : Nat} {s : Sem Value} (h : YD P B ρ w v H' lo (fun w v' w' => s.run P w = .ok v' w')) (he : execOp a.eval o = nv s) : YO P B ρ w a o v H' lo := by
  obtain ⟨ρ', v', w', h1, h2, h3, h4⟩ := h
  exact ⟨ρ', _, v', w', by rw [he]; simp [nv, h1], .inl rfl, h2, h3, h4⟩
theorem YD.yo_skip {o : Oper} {H' : Heap} {lo : Nat} {s : Sem Unit} (h : YD P B ρ w undef H' lo (fun w _ w' => s.run P w = .ok () w')) (he : execOp a.eval o = nu s) : YO P B ρ w a o undef H' lo := by
  obtain ⟨ρ', v', w', h1, h2, h3, h4⟩ := h
  exact ⟨ρ', _, undef, w', by rw [he]; simp [nu, h1], .inr ⟨rfl, rfl⟩, VT.undef _, h3, h4⟩

theorem ret_some {H H' : Heap} {x : Option Value} {v : Value} {lo : Nat} (h : ret H x = some (v, H', lo)) : x = some v ∧ H' = H ∧ lo = H.n := by
  unfold ret at h
  split at h <;> cases h
  exact ⟨rfl, rfl, rfl⟩

theorem qo_pure (hH : HR P B ρ H w) (hF : FR ρ tm a) {o : Oper} {v : Value} (h : apure P tm o = some v) : QO P ρ w a o v := by
  obtain ⟨h1, h2⟩ := q_pure hH hF h
  exact ⟨v, h1, fun w1 _ => h2 w1⟩

theorem two {α β : Type} {x : α} {xs : Array α} {f : α → β} (h : xs.toList = [x]) : xs.map f = #[f x] := by
  rw [← Array.toList_inj, Array.toList_map, h]; rfl

theorem run_underlying {t : TypeId} {d : TypeDesc} (h : P.underlying t = some d) (w1 : World) : (underlying t).run P w1 = .ok d w1 := by
  unfold underlying
  rw [Sem.run_bind, show (program).run P w1 = .ok P w1 from rfl]
  simp only [Result.andThen_ok, h]
  rfl
theorem anil_run {op : BinOp} {x y v x' y' : Value} {t : TypeId} {xo yo : Operand} {ρ : Ren} {w : World} (h : anil P t op x y = some v) (hx : VT ρ x x') (hy : VT ρ y y') : plain v = true ∧
    ∀ w1 : World, ((do eqGuard op t xo yo x' y'; binOp op t x' y' : Sem Value)).run P w1 = .ok v w1 := by
  unfold anil at h
  split at h
  · have hy' := hy.plain rfl
    subst hy'
    obtain ⟨s, n, c, rfl⟩ : ∃ s n c, x' = .slice (some s) n c := by
      cases hx with
      | one hx => cases hx with
        | cell hx => cases hx with
          | same hs => simp [scalar] at hs
          | sl _ _ _ => exact ⟨_, _, _, rfl⟩
          | anon _ _ => exact ⟨_, _, _, rfl⟩
    split at h
    · rename_i e he
      cases h
      refine ⟨rfl, fun w1 => ?_⟩
      have hq : (Op.equal t (.slice (some s) n c) (.slice none 0 0)).run P w1 = .ok false w1 := by
        unfold Op.equal
        rw [show Op.maxDepth = 9999 + 1 from rfl, Op.equalIn, Sem.run_bind, run_underlying he]
        rfl
      rw [show (do eqGuard .eql t xo yo (.slice (some s) n c) (.slice none 0 0); binOp .eql t (.slice (some s) n c) (.slice none 0 0) : Sem Value) = (do pure (.bool (← Op.equal t (.slice (some s) n c) (.slice none 0 0)))) from rfl, Sem.run_bind, hq]
      rfl
    · rename_i e he
      cases h
      refine ⟨rfl, fun w1 => ?_⟩
      have hq : (Op.equal t (.slice (some s) n c) (.slice none 0 0)).run P w1 = .ok false w1 := by
        unfold Op.equal
        rw [show Op.maxDepth = 9999 + 1 from rfl, Op.equalIn, Sem.run_bind, run_underlying he]
        rfl
      rw [show (do eqGuard .neq t xo yo (.slice (some s) n c) (.slice none 0 0); binOp .neq t (.slice (some s) n c) (.slice none 0 0) : Sem Value) = (do pure (.bool (!(← Op.equal t (.slice (some s) n c) (.slice none 0 0))))) from rfl, Sem.run_bind, hq]
      rfl
    · cases h
  · have hy' := hy.plain rfl
    subst hy'
    obtain ⟨s, rfl⟩ : ∃ s, x' = .pointer (some s) := by
      cases hx with
      | one hx => cases hx with
        | cell hx => cases hx with
          | same hs => simp [scalar] at hs
          | ptr _ => exact ⟨_, rfl⟩
    split at h
    · rename_i e he
      cases h
      refine ⟨rfl, fun w1 => ?_⟩
      have hq : (Op.equal t (.pointer (some s)) (.pointer none)).run P w1 = .ok false w1 := by
        unfold Op.equal
        rw [show Op.maxDepth = 9999 + 1 from rfl, Op.equalIn, Sem.run_bind, run_underlying he]
        rfl
      rw [show (do eqGuard .eql t xo yo (.pointer (some s)) (.pointer none); binOp .eql t (.pointer (some s)) (.pointer none) : Sem Value) = (do pure (.bool (← Op.equal t (.pointer (some s)) (.pointer none)))) from rfl, Sem.run_bind, hq]
      rfl
    · rename_i e he
      cases h
      refine ⟨rfl, fun w1 => ?_⟩
      have hq : (Op.equal t (.pointer (some s)) (.pointer none)).run P w1 = .ok false w1 := by
        unfold Op.equal
        rw [show Op.maxDepth = 9999 + 1 from rfl, Op.equalIn, Sem.run_bind, run_underlying he]
        rfl
      rw [show (do eqGuard .neq t xo yo (.pointer (some s)) (.pointer none); binOp .neq t (.pointer (some s)) (.pointer none) : Sem Value) = (do pure (.bool (!(← Op.equal t (.pointer (some s)) (.pointer none))))) from rfl, Sem.run_bind, hq]
      rfl
    · cases h
  · have hy' := hy.plain rfl
    subst hy'
    obtain ⟨s, rfl⟩ : ∃ s, x' = .map (some s) := by
      cases hx with
      | one hx => cases hx with
        | cell hx => cases hx with
          | same hs => simp [scalar] at hs
          | map _ => exact ⟨_, rfl⟩
    split at h
    · rename_i k e he
      cases h
      refine ⟨rfl, fun w1 => ?_⟩
      have hq : (Op.equal t (.map (some s)) (.map none)).run P w1 = .ok false w1 := by
        unfold Op.equal
        rw [show Op.maxDepth = 9999 + 1 from rfl, Op.equalIn, Sem.run_bind, run_underlying he]
        rfl
      rw [show (do eqGuard .eql t xo yo (.map (some s)) (.map none); binOp .eql t (.map (some s)) (.map none) : Sem Value) = (do pure (.bool (← Op.equal t (.map (some s)) (.map none)))) from rfl, Sem.run_bind, hq]
      rfl
    · rename_i k e he
      cases h
      refine ⟨rfl, fun w1 => ?_⟩
      have hq : (Op.equal t (.map (some s)) (.map none)).run P w1 = .ok false w1 := by
        unfold Op.equal
        rw [show Op.maxDepth = 9999 + 1 from rfl, Op.equalIn, Sem.run_bind, run_underlying he]
        rfl
      rw [show (do eqGuard .neq t xo yo (.map (some s)) (.map none); binOp .neq t (.map (some s)) (.map none) : Sem Value) = (do pure (.bool (!(← Op.equal t (.map (some s)) (.map none))))) from rfl, Sem.run_bind, hq]
      rfl
    · cases h
  · cases h

/-- What step1 yields for an operation that is seen as quiet. -/
theorem step1_quiet (hH : HR P B ρ H w) (hF : FR ρ tm a) {o : Oper} {v : Value} {H' : Heap} {lo : Nat} (hq : quietOp o = true) (h : step1 P tm H o = some (v, H', lo)) : QO P ρ w a o v ∧ H' = H ∧ lo = H.n := by
  unfold step1 at h
  split at h
  · rename_i x hop
    obtain ⟨h1, h2, h3⟩ := ret_some h
    exact ⟨⟨_, ev_sound hH hF h1, fun w1 _ => by simp [execOp, hop]⟩, h2, h3⟩
  · rename_i x hop
    obtain ⟨h1, h2, h3⟩ := ret_some h
    exact ⟨⟨_, ev_sound hH hF h1, fun w1 _ => by simp [execOp, hop]⟩, h2, h3⟩
  · rename_i c x y hop
    unfold sPick at h
    split at h
    · rename_i hc
      obtain ⟨h1, h2, h3⟩ := ret_some h
      have := vt_bool (ev_sound hH hF hc)
      exact ⟨⟨_, ev_sound hH hF h1, fun w1 _ => by simp [execOp, hop, this, asBool]⟩, h2, h3⟩
    · rename_i hc
      obtain ⟨h1, h2, h3⟩ := ret_some h
      have := vt_bool (ev_sound hH hF hc)
      exact ⟨⟨_, ev_sound hH hF h1, fun w1 _ => by simp [execOp, hop, this, asBool]⟩, h2, h3⟩
    · cases h
  · rename_i hop; simp [quietOp, hop] at hq
  · rename_i hop; simp [quietOp, hop] at hq
  · rename_i t x hop
    unfold sLoad at h
    split at h
    · rename_i u hu
      obtain ⟨h1, h2, h3⟩ := ret_some h
      exact ⟨(q_load hH (ev_sound hH hF hu) h1).qo (by simp only [execOp, hop]; rfl), h2, h3⟩
    · cases h
  · rename_i hop; simp [quietOp, hop] at hq
  · rename_i x hop
    unfold sNil at h
    split at h
    · rename_i u hu
      obtain ⟨h1, h2, h3⟩ := ret_some h
      rcases q_nil (ev_sound hH hF hu) h1 with ⟨g1, ad, g2⟩ | ⟨g1, f, y, z, g2⟩
      · exact ⟨⟨_, g1, fun w1 _ => by simp [execOp, hop, g2]⟩, h2, h3⟩
      · exact ⟨⟨_, g1, fun w1 _ => by simp [execOp, hop, g2]⟩, h2, h3⟩
    · cases h
  · rename_i hop; simp [quietOp, hop] at hq
  · rename_i hop; simp [quietOp, hop] at hq
  · rename_i hop; simp [quietOp, hop] at hq
  · rename_i t x l hh mx hop
    unfold sSlice at h
    split at h
    · split at h
      · rename_i u hu
        obtain ⟨h1, h2, h3⟩ := ret_some h
        exact ⟨(q_slice hH hF (ev_sound hH hF hu) h1).qo (by simp only [execOp, hop]; rfl), h2, h3⟩
      · cases h
    · cases h
  · rename_i s x f hop
    unfold sFieldAddr at h
    split at h
    · rename_i u hu
      obtain ⟨h1, h2, h3⟩ := ret_some h
      exact ⟨(q_fieldAddr (ev_sound hH hF hu) h1).qo (by simp only [execOp, hop]; rfl), h2, h3⟩
    · cases h
  · rename_i t x i hop
    unfold sIndexAddr at h
    split at h
    · rename_i u j hu hj
      obtain ⟨h1, h2, h3⟩ := ret_some h
      exact ⟨(q_indexAddr (ev_sound hH hF hu) (ev_sound hH hF hj) h1).qo (by simp only [execOp, hop]; rfl), h2, h3⟩
    · cases h
  · rename_i t x f hop
    unfold sField at h
    split at h
    · rename_i u hu
      obtain ⟨h1, h2, h3⟩ := ret_some h
      exact ⟨(q_field (ev_sound hH hF hu) h1).qo (by simp only [execOp, hop]; rfl), h2, h3⟩
    · cases h
  · rename_i t x i hop
    unfold sIndex at h
    split at h
    · rename_i u j hu hj
      obtain ⟨h1, h2, h3⟩ := ret_some h
      exact ⟨(q_index (ev_sound hH hF hu) (ev_sound hH hF hj) h1).qo (by simp only [execOp, hop]; rfl), h2, h3⟩
    · cases h
  · rename_i x i hop
    unfold sExtract at h
    split at h
    · rename_i vs hu
      obtain ⟨h1, h2, h3⟩ := ret_some h
      exact ⟨(q_extract (ev_sound hH hF hu) h1).qo (by simp only [execOp, hop]; rfl), h2, h3⟩
    · cases h
  · rename_i t parts hop
    unfold sBuild at h
    split at h
    · rename_i l hl
      obtain ⟨h1, h2, h3⟩ := ret_some h
      exact ⟨(q_build hH hF hl h1).qo (by simp only [execOp, hop]; rfl), h2, h3⟩
    · cases h
  · rename_i hop; simp [quietOp, hop] at hq
  · rename_i t x k ok hop
    unfold sLookup at h
    split at h
    · rename_i u j hu hj
      obtain ⟨h1, h2, h3⟩ := ret_some h
      exact ⟨(q_lookup hH (ev_sound hH hF hu) (ev_sound hH hF hj) h1).qo (by simp only [execOp, hop]; rfl), h2, h3⟩
    · cases h
  · rename_i hop; simp [quietOp, hop] at hq
  · rename_i hop; simp [quietOp, hop] at hq
  · rename_i s d x hop
    unfold sConvert at h
    split at h
    · rename_i u hu
      split at h
      · obtain ⟨h1, h2, h3⟩ := ret_some h
        exact ⟨qo_pure hH hF h1, h2, h3⟩
      · obtain ⟨h1, h2, h3⟩ := ret_some h
        exact ⟨(q_convert hH (ev_sound hH hF hu) h1).qo (by simp only [execOp, hop]; rfl), h2, h3⟩
    · cases h
  · rename_i c hop
    unfold sCall at h
    split at h
    · rename_i b hb
      unfold sBuiltin at h
      split at h
      · unfold sLen at h
        split at h
        · rename_i x t hx ht
          split at h
          · rename_i u hu
            obtain ⟨h1, h2, h3⟩ := ret_some h
            refine ⟨(q_len hH (ty := o.type) (ev_sound hH hF hu) h1 ht).qo ?_, h2, h3⟩
            have e1 : c.args.map a.eval = #[a.eval x] := two hx
            simp only [execOp, hop, resolve, hb, e1]
            rfl
          · cases h
        · cases h
      · obtain ⟨callee, args, tys⟩ := c
        simp only at hb
        subst hb
        simp [quietOp, hop] at hq
      · obtain ⟨h1, h2, h3⟩ := ret_some h
        exact ⟨qo_pure hH hF h1, h2, h3⟩
    · obtain ⟨h1, h2, h3⟩ := ret_some h
      exact ⟨qo_pure hH hF h1, h2, h3⟩
  · rename_i op t x y t' hop
    unfold sBin at h
    split at h
    · rename_i p q hp hq'
      split at h
      · rename_i u hu
        cases h
        obtain ⟨h1, _⟩ := abin_run (P := P) (t := t) (xo := x) (yo := y) hu w
        have ex := ev_sound hH hF hp
        have ey := ev_sound hH hF hq'
        have hpi : ∃ k n, p = .int k n := by
          unfold abin at hu
          split at hu
          · exact ⟨_, _, rfl⟩
          · cases hu
        have hqi : ∃ k n, q = .int k n := by
          unfold abin at hu
          split at hu
          · exact ⟨_, _, rfl⟩
          · cases hu
        obtain ⟨k, n, rfl⟩ := hpi
        obtain ⟨k', n', rfl⟩ := hqi
        refine ⟨⟨v, VT.of_plain h1, fun w1 _ => ?_⟩, rfl, rfl⟩
        have := (abin_run (P := P) (t := t) (xo := x) (yo := y) hu w1).2
        simp only [execOp, hop, vt_int ex, vt_int ey]
        rw [Sem.run_bind, this]; rfl
      · split at h
        · rename_i u hu
          cases h
          have ex := ev_sound hH hF hp
          have ey := ev_sound hH hF hq'
          obtain ⟨h1, h2⟩ := anil_run (w := w) (xo := x) (yo := y) hu ex ey
          refine ⟨⟨v, VT.of_plain h1, fun w1 _ => ?_⟩, rfl, rfl⟩
          simp only [execOp, hop]
          rw [Sem.run_bind, h2 w1]; rfl
        · obtain ⟨h1, h2, h3⟩ := ret_some h
          exact ⟨qo_pure hH hF h1, h2, h3⟩
    · cases h
  · obtain ⟨h1, h2, h3⟩ := ret_some h
    exact ⟨qo_pure hH hF h1, h2, h3⟩
  · cases h

theorem pair {α β : Type} {x y : α} {xs : Array α} {f : α → β} (h : xs.toList = [x, y]) : xs.map f = #[f x, f y] := by
  rw [← Array.toList_inj, Array.toList_map, h]; rfl

/-- What step1 yields, for whatever operation. -/
theorem step1_sound (hH : HR P B ρ H w) (hF : FR ρ tm a) {o : Oper} {v : Value} {H' : Heap} {lo : Nat} (h : step1 P tm H o = some (v, H', lo)) : YO P B ρ w a o v H' lo := by
  by_cases hq : quietOp o = true
  · obtain ⟨h1, rfl, rfl⟩ := step1_quiet hH hF hq h
    exact h1.yo hH _
  · unfold step1 at h
    split at h
    · rename_i hop; simp [quietOp, hop] at hq
    · rename_i hop; simp [quietOp, hop] at hq
    · rename_i hop; simp [quietOp, hop] at hq
    · rename_i t hop
      unfold sAlloc at h
      split at h
      · rename_i z hz
        split at h <;> cases h
        rename_i hs
        have hz' : ∃ i, P.info? t = some i ∧ i.zero = some z := by
          cases hi : P.info? t with
          | none => rw [hi] at hz; cases hz
          | some i => rw [hi] at hz; exact ⟨i, rfl, hz⟩
        obtain ⟨i, hi, hzz⟩ := hz'
        exact (y_alloc hH hi hzz hs).yo (by simp only [execOp, hop]; rfl)
      · cases h
    · rename_i t x hop
      unfold sBox at h
      split at h
      · rename_i u hu
        split at h <;> cases h
        rename_i hn
        exact (y_box hH (ev_sound hH hF hu) hn).yo (by simp only [execOp, hop]; rfl)
      · cases h
    · rename_i hop; simp [quietOp, hop] at hq
    · rename_i t x y hop
      unfold sStore at h
      split at h
      · rename_i u j hu hj
        split at h <;> cases h
        rename_i hst
        exact (y_store hH (ev_sound hH hF hu) (ev_sound hH hF hj) hst).yo_skip (by simp only [execOp, hop]; rfl)
      · cases h
    · rename_i hop; simp [quietOp, hop] at hq
    · rename_i fn first cap hop
      unfold sFunc at h
      split at h
      · rename_i f
        split at h
        · rename_i hf0
          split at h
          · rename_i l hl
            split at h <;> cases h
            rename_i hc
            exact ((q_func hH hF hf0 hl hc).qo (by simp only [execOp, hop]; rfl)).yo hH _
          · cases h
        · cases h
      · cases h
    · rename_i t r hop
      unfold sMakeMap at h
      split at h <;> cases h
      exact (y_makeMap hH t).yo (by simp only [execOp, hop]; rfl)
    · rename_i t l c hop
      unfold sMakeSlice at h
      split at h
      · rename_i u j hu hj
        exact (y_makeSlice hH (ev_sound hH hF hu) (ev_sound hH hF hj) h).yo (by simp only [execOp, hop]; rfl)
      · cases h
    · rename_i hop; simp [quietOp, hop] at hq
    · rename_i hop; simp [quietOp, hop] at hq
    · rename_i hop; simp [quietOp, hop] at hq
    · rename_i hop; simp [quietOp, hop] at hq
    · rename_i hop; simp [quietOp, hop] at hq
    · rename_i hop; simp [quietOp, hop] at hq
    · rename_i hop; simp [quietOp, hop] at hq
    · rename_i t len parts hop
      unfold sBuildSlice at h
      split at h
      · rename_i l hl
        exact (y_buildSlice hH hF hl h).yo (by simp only [execOp, hop]; rfl)
      · cases h
    · rename_i hop; simp [quietOp, hop] at hq
    · rename_i t m k x hop
      unfold sMapUpdate at h
      split at h
      · rename_i u j i hu hj hi
        split at h <;> cases h
        rename_i hst
        exact (y_mapUpdate hH (ev_sound hH hF hu) (ev_sound hH hF hj) (ev_sound hH hF hi) hst).yo_skip (by simp only [execOp, hop]; rfl)
      · cases h
    · rename_i t m k x hop
      unfold sMapUpdate at h
      split at h
      · rename_i u j i hu hj hi
        split at h <;> cases h
        rename_i hst
        exact (y_mapUpdate hH (ev_sound hH hF hu) (ev_sound hH hF hj) (ev_sound hH hF hi) hst).yo_skip (by simp only [execOp, hop]; rfl)
      · cases h
    · rename_i hop; simp [quietOp, hop] at hq
    · rename_i c hop
      unfold sCall at h
      split at h
      · rename_i b hb
        unfold sBuiltin at h
        split at h
        · obtain ⟨callee, args, tys⟩ := c
          simp only at hb
          subst hb
          simp [quietOp, hop] at hq
        · unfold sAppend at h
          split at h
          · rename_i x y hx
            split at h
            · rename_i u j hu hj
              refine (y_append hH (ty := o.type) (ev_sound hH hF hu) (ev_sound hH hF hj) h).yo ?_
              have e1 : c.args.map a.eval = #[a.eval x, a.eval y] := pair hx
              simp only [execOp, hop, resolve, hb, e1]
              rfl
            · cases h
          · cases h
        · obtain ⟨h1, h2, h3⟩ := ret_some h
          subst h2; subst h3
          exact (qo_pure hH hF h1).yo hH _
      · obtain ⟨h1, h2, h3⟩ := ret_some h
        subst h2; subst h3
        exact (qo_pure hH hF h1).yo hH _
    · rename_i hop; simp [quietOp, hop] at hq
    · rename_i hop; simp [quietOp, hop] at hq
    · cases h

end
end Go.AI
