/- The abstract machine and the model: what relates them. -/
import Derived.Test.YthjieekbbhhjgaaDoorE2
namespace Go.AI

/-! ### Trees -/
theorem nbf {a b : Nat} (h : a ≠ b) : Nat.beq a b = false := by
  cases hb : Nat.beq a b with
  | false => rfl
  | true => exact absurd (Nat.eq_of_beq_eq_true hb) h
theorem nbt {a b : Nat} (h : a = b) : Nat.beq a b = true := by subst h; exact Nat.beq_refl _
section
variable {α : Type}
theorem setF_eq (v : α) : ∀ (f : Nat) (t : Tr α) (i : Nat), i + 1 < 2 ^ f → (Tr.setF v f t i).get i = some v
  | 0, _, i, h => by simp at h
  | f + 1, t, i, h => by
    have hp : 2 ^ (f + 1) = 2 * 2 ^ f := by rw [Nat.pow_succ]; omega
    have key : ∀ (l r : Tr α) (u : Option α), (bif Nat.beq i 0 then Tr.node l (some v) r else bif Nat.beq (i % 2) 1 then .node (Tr.setF v f l (i / 2)) u r else .node l u (Tr.setF v f r (i / 2 - 1))).get i = some v := by
      intro l r u
      by_cases h0 : i = 0
      · subst h0; simp [Tr.get]
      · have hb : Nat.beq i 0 = false := nbf h0
        by_cases h1 : i % 2 = 1
        · have hc : Nat.beq (i % 2) 1 = true := nbt h1
          simp only [hb, hc, cond_false, cond_true, Tr.get]
          exact setF_eq v f l _ (by omega)
        · have hc : Nat.beq (i % 2) 1 = false := nbf h1
          simp only [hb, hc, cond_false, Tr.get]
          exact setF_eq v f r _ (by omega)
    cases t with
    | leaf => simpa [Tr.setF] using key .leaf .leaf none
    | node l u r => simpa [Tr.setF] using key l r u
theorem setF_ne (v : α) : ∀ (f : Nat) (t : Tr α) (i j : Nat), i ≠ j → (Tr.setF v f t i).get j = t.get j
  | 0, _, _, _, _ => rfl
  | f + 1, t, i, j, h => by
    have key : ∀ (l r : Tr α) (u : Option α), (bif Nat.beq i 0 then Tr.node l (some v) r else bif Nat.beq (i % 2) 1 then .node (Tr.setF v f l (i / 2)) u r else .node l u (Tr.setF v f r (i / 2 - 1))).get j = (Tr.node l u r).get j := by
      intro l r u
      by_cases h0 : i = 0
      · subst h0
        have hb : Nat.beq j 0 = false := nbf (Ne.symm h)
        simp [Tr.get, hb]
      · have hb : Nat.beq i 0 = false := nbf h0
        by_cases h1 : i % 2 = 1
        · have hc : Nat.beq (i % 2) 1 = true := nbt h1
          simp only [hb, hc, cond_false, cond_true, Tr.get]
          by_cases j0 : j = 0
          · subst j0; simp
          · have jb : Nat.beq j 0 = false := nbf j0
            by_cases j1 : j % 2 = 1
            · have jc : Nat.beq (j % 2) 1 = true := nbt j1
              simp only [jb, jc, cond_false, cond_true]
              exact setF_ne v f l _ _ (by omega)
            · have jc : Nat.beq (j % 2) 1 = false := nbf j1
              simp only [jb, jc, cond_false]
        · have hc : Nat.beq (i % 2) 1 = false := nbf h1
          simp only [hb, hc, cond_false, Tr.get]
          by_cases j0 : j = 0
          · subst j0; simp
          · have jb : Nat.beq j 0 = false := nbf j0
            by_cases j1 : j % 2 = 1
            · have jc : Nat.beq (j % 2) 1 = true := nbt j1
              simp only [jb, jc, cond_false, cond_true]
            · have jc : Nat.beq (j % 2) 1 = false := nbf j1
              simp only [jb, jc, cond_false]
              exact setF_ne v f r _ _ (by omega)
    cases t with
    | leaf =>
      have := key .leaf .leaf none
      have e : (Tr.node Tr.leaf (none : Option α) Tr.leaf).get j = Tr.get .leaf j := by simp [Tr.get]
      rw [e] at this
      simpa [Tr.setF] using this
    | node l u r => simpa [Tr.setF] using key l r u
theorem Tr.get_set_eq (t : Tr α) (i : Nat) (v : α) : (t.set i v).get i = some v :=
  by unfold Tr.set; exact setF_eq v _ t i Nat.lt_log2_self
theorem Tr.get_set_ne (t : Tr α) {i j : Nat} (v : α) (h : i ≠ j) : (t.set i v).get j = t.get j := by
  unfold Tr.set; exact setF_ne v _ t i j h
end

theorem Heap.get_set_eq (H : Heap) (b : Nat) (o : AObj) : (H.set b o).get b = some o := Tr.get_set_eq _ _ _
theorem Heap.get_set_ne (H : Heap) {b c : Nat} (o : AObj) (h : b ≠ c) : (H.set b o).get c = H.get c := Tr.get_set_ne _ _ h
theorem Heap.get_new_eq (H : Heap) (o : AObj) : (H.new o).get H.n = some o := Tr.get_set_eq _ _ _
theorem Heap.get_new_ne (H : Heap) {c : Nat} (o : AObj) (h : c ≠ H.n) : (H.new o).get c = H.get c := Tr.get_set_ne _ _ (Ne.symm h)
@[simp] theorem Heap.n_set (H : Heap) (b : Nat) (o : AObj) : (H.set b o).n = H.n := rfl
@[simp] theorem Heap.n_new (H : Heap) (o : AObj) : (H.new o).n = H.n + 1 := rfl
theorem Tm.at_set_eq (t : Tm) (i : Nat) (v : Value) : Tm.at (Tr.set t i v) i = v := by simp [Tm.at, Tr.get_set_eq]
theorem Tm.at_set_ne (t : Tm) {i j : Nat} (v : Value) (h : i ≠ j) : Tm.at (Tr.set t i v) j = Tm.at t j := by simp [Tm.at, Tr.get_set_ne _ _ h]

/-! ### Lists, place by place -/
inductive L2 {α β : Type} (R : α → β → Prop) : List α → List β → Prop
  | nil : L2 R [] []
  | cons {x y xs ys} (h : R x y) (t : L2 R xs ys) : L2 R (x :: xs) (y :: ys)
section
variable {α β : Type} {R S : α → β → Prop}
theorem L2.length {xs : List α} {ys : List β} (h : L2 R xs ys) : xs.length = ys.length := by
  induction h with
  | nil => rfl
  | cons _ _ ih => simp [ih]
theorem L2.get {xs : List α} {ys : List β} (h : L2 R xs ys) : ∀ {i : Nat} {x : α}, xs[i]? = some x → ∃ y, ys[i]? = some y ∧ R x y := by
  induction h with
  | nil => intro i x hx; simp at hx
  | cons hr _ ih =>
    intro i x hx
    cases i with
    | zero => simp at hx; subst hx; exact ⟨_, rfl, hr⟩
    | succ i => simpa using ih (by simpa using hx)
theorem L2.of_get : ∀ {xs : List α} {ys : List β}, xs.length = ys.length → (∀ (i : Nat) (x : α) (y : β), xs[i]? = some x → ys[i]? = some y → R x y) → L2 R xs ys
  | [], [], _, _ => .nil
  | x :: xs, y :: ys, hl, h => .cons (h 0 x y rfl rfl) (of_get (by simpa using hl) fun i a b ha hb => h (i + 1) a b (by simpa using ha) (by simpa using hb))
  | [], _ :: _, hl, _ => by simp at hl
  | _ :: _, [], hl, _ => by simp at hl
theorem L2.both {xs : List α} {ys : List β} (h : L2 R xs ys) {i : Nat} {x : α} {y : β} (hx : xs[i]? = some x) (hy : ys[i]? = some y) : R x y := by
  obtain ⟨y', h1, h2⟩ := h.get hx
  rw [hy] at h1; cases h1; exact h2
theorem L2.mono {xs : List α} {ys : List β} (h : L2 R xs ys) (hs : ∀ x y, R x y → S x y) : L2 S xs ys := by
  induction h with
  | nil => exact .nil
  | cons hr _ ih => exact .cons (hs _ _ hr) ih
theorem L2.append {xs xs' : List α} {ys ys' : List β} (h : L2 R xs ys) (h' : L2 R xs' ys') : L2 R (xs ++ xs') (ys ++ ys') := by
  induction h with
  | nil => exact h'
  | cons hr _ ih => exact .cons hr ih
theorem L2.take {xs : List α} {ys : List β} (h : L2 R xs ys) : ∀ n, L2 R (xs.take n) (ys.take n) := by
  induction h with
  | nil => intro n; simp; exact .nil
  | cons hr _ ih => intro n; cases n with
    | zero => exact .nil
    | succ n => exact .cons hr (ih n)
theorem L2.drop {xs : List α} {ys : List β} (h : L2 R xs ys) : ∀ n, L2 R (xs.drop n) (ys.drop n) := by
  induction h with
  | nil => intro n; simp; exact .nil
  | cons hr t ih => intro n; cases n with
    | zero => exact .cons hr t
    | succ n => simpa using ih n
theorem L2.set {xs : List α} {ys : List β} (h : L2 R xs ys) {x : α} {y : β} (hr : R x y) : ∀ i, L2 R (xs.set i x) (ys.set i y) := by
  induction h with
  | nil => intro i; exact .nil
  | cons h0 t ih => intro i; cases i with
    | zero => exact .cons hr t
    | succ i => exact .cons h0 (ih i)
theorem L2.replicate {x : α} {y : β} (hr : R x y) : ∀ n, L2 R (List.replicate n x) (List.replicate n y)
  | 0 => .nil
  | n + 1 => .cons hr (replicate hr n)
theorem L2.flatten {R : α → β → Prop} {xss : List (List α)} {yss : List (List β)} (h : L2 (L2 R) xss yss) : L2 R xss.flatten yss.flatten := by
  induction h with
  | nil => exact .nil
  | cons h0 _ ih => simpa using h0.append ih
theorem L2.refl_of {R : α → α → Prop} : ∀ {xs : List α}, (∀ x ∈ xs, R x x) → L2 R xs xs
  | [], _ => .nil
  | x :: xs, h => .cons (h x (by simp)) (refl_of fun y hy => h y (by simp [hy]))
end
theorem L2.splice {R : Value → Value → Prop} : ∀ {vs vs' : List Value} {xs ys : List Value} (i : Nat), L2 R xs ys → L2 R vs vs' → L2 R (splice xs i vs) (splice ys i vs')
  | _, _, _, _, _, h, .nil => h
  | _, _, _, _, i, h, .cons hr t => L2.splice (i + 1) (h.set hr i) t
theorem splice_length : ∀ (vs cs : List Value) (i : Nat), (splice cs i vs).length = cs.length
  | [], _, _ => rfl
  | _ :: vs, cs, i => by rw [splice, splice_length vs]; simp

/-! ### Values -/
structure Ent where
  blk : Nat
  base : Nat
  cap : Nat

abbrev Ren := Nat → Option Ent

def Ren.le (ρ ρ' : Ren) : Prop := ∀ b e, ρ b = some e → ρ' b = some e
theorem Ren.le_refl (ρ : Ren) : Ren.le ρ ρ := fun _ _ h => h
theorem Ren.le_trans {a b c : Ren} (h : Ren.le a b) (h' : Ren.le b c) : Ren.le a c := fun x e hx => h' x e (h x e hx)

/-- One cell. -/
inductive VC (ρ : Ren) : Value → Value → Prop
  | same {v : Value} (h : scalar v = true) : VC ρ v v
  | ptr {b i : Nat} {e : Ent} (h : ρ b = some e) : VC ρ (.pointer (some ⟨b, i, none⟩)) (.pointer (some ⟨e.blk, e.base + i, none⟩))
  | sl {b i n c c' : Nat} {e : Ent} (h : ρ b = some e) (hn : n ≤ c') (h0 : c = 0 → i = 0 ∧ e.base = 0 ∧ c' = e.cap) : VC ρ (.slice (some ⟨b, i, none⟩) n c) (.slice (some ⟨e.blk, e.base + i, none⟩) n c')
  | anon {x y z : Nat} (a' : Addr) (c' : Nat) : VC ρ (.slice (some ⟨x, y, some z⟩) 0 0) (.slice (some a') 0 c')
  | map {b : Nat} {e : Ent} (h : ρ b = some e) : VC ρ (.map (some b)) (.map (some e.blk))
  | fn {f : FuncId} {cap cap' : Array Value} (hs : cap.size = cap'.size) (h : ∀ (i : Nat) (x y : Value), cap.toList[i]? = some x → cap'.toList[i]? = some y → VC ρ x y) : VC ρ (.func (.func f) #[] cap) (.func (.func f) #[] cap')
/-- One cell, or a row of them. -/
inductive VR (ρ : Ren) : Value → Value → Prop
  | cell {v v' : Value} (h : VC ρ v v') : VR ρ v v'
  | agg {cs cs' : Array Value} (h : L2 (VC ρ) cs.toList cs'.toList) : VR ρ (.agg cs) (.agg cs')
inductive VT (ρ : Ren) : Value → Value → Prop
  | one {v v' : Value} (h : VR ρ v v') : VT ρ v v'
  | tup {vs vs' : Array Value} (h : L2 (VR ρ) vs.toList vs'.toList) : VT ρ (.tuple vs) (.tuple vs')

theorem VC.mono {ρ ρ' : Ren} (hρ : Ren.le ρ ρ') {v v' : Value} (h : VC ρ v v') : VC ρ' v v' := by
  induction h with
  | same h => exact .same h
  | ptr h => exact .ptr (hρ _ _ h)
  | sl h hn h0 => exact .sl (hρ _ _ h) hn h0
  | anon a' c' => exact .anon a' c'
  | map h => exact .map (hρ _ _ h)
  | fn hs _ ih => exact .fn hs ih
theorem VR.mono {ρ ρ' : Ren} (hρ : Ren.le ρ ρ') {v v' : Value} (h : VR ρ v v') : VR ρ' v v' := by
  cases h with
  | cell h => exact .cell (h.mono hρ)
  | agg h => exact .agg (h.mono fun _ _ => VC.mono hρ)
theorem VT.mono {ρ ρ' : Ren} (hρ : Ren.le ρ ρ') {v v' : Value} (h : VT ρ v v') : VT ρ' v v' := by
  cases h with
  | one h => exact .one (h.mono hρ)
  | tup h => exact .tup (h.mono fun _ _ => VR.mono hρ)

theorem VC.scalar {ρ : Ren} {v v' : Value} (h : VC ρ v v') (hs : AI.scalar v = true) : v' = v := by
  cases h with
  | same _ => rfl
  | ptr _ => simp [AI.scalar] at hs
  | sl _ _ _ => simp [AI.scalar] at hs
  | anon _ _ => simp [AI.scalar] at hs
  | map _ => simp [AI.scalar] at hs
  | fn h1 h2 =>
    rename_i f cap cap'
    simp only [AI.scalar, Bool.and_eq_true, beq_iff_eq] at hs
    have h0 : cap = #[] := Array.size_eq_zero_iff.1 hs.2
    have h3 : cap' = #[] := Array.size_eq_zero_iff.1 (by omega)
    rw [h0, h3]
theorem L2_eq {R : Value → Value → Prop} {xs ys : List Value} (h : L2 R xs ys) (he : ∀ x y, x ∈ xs → R x y → y = x) : ys = xs := by
  induction h with
  | nil => rfl
  | cons hr _ ih => rw [he _ _ (by simp) hr, ih fun x y hx => he x y (by simp [hx])]
theorem VR.flat {ρ : Ren} {v v' : Value} (h : VR ρ v v') (hs : AI.flat v = true) : v' = v := by
  cases h with
  | cell h => cases h with
    | same _ => rfl
    | ptr _ => simp [AI.flat, AI.scalar] at hs
    | sl _ _ _ => simp [AI.flat, AI.scalar] at hs
    | anon _ _ => simp [AI.flat, AI.scalar] at hs
    | map _ => simp [AI.flat, AI.scalar] at hs
    | fn h1 h2 => exact (VC.fn h1 h2).scalar (by simpa [AI.flat] using hs)
  | agg h =>
    rename_i cs cs'
    simp only [AI.flat, List.all_eq_true] at hs
    have := L2_eq h fun x y hx hr => hr.scalar (hs x hx)
    rw [Array.toList_inj.1 this]
theorem VT.plain {ρ : Ren} {v v' : Value} (h : VT ρ v v') (hs : AI.plain v = true) : v' = v := by
  cases h with
  | one h => cases h with
    | agg h => exact (VR.agg h).flat (by simpa [AI.plain] using hs)
    | cell h => cases h with
      | same _ => rfl
      | ptr _ => simp [AI.plain, AI.flat, AI.scalar] at hs
      | sl _ _ _ => simp [AI.plain, AI.flat, AI.scalar] at hs
      | anon _ _ => simp [AI.plain, AI.flat, AI.scalar] at hs
      | map _ => simp [AI.plain, AI.flat, AI.scalar] at hs
      | fn h1 h2 => exact (VC.fn h1 h2).scalar (by simpa [AI.plain, AI.flat] using hs)
  | tup h =>
    simp only [AI.plain, List.all_eq_true] at hs
    have := L2_eq h fun x y hx hr => hr.flat (hs x hx)
    rw [Array.toList_inj.1 this]
theorem VR.of_flat {ρ : Ren} {v : Value} (h : AI.flat v = true) : VR ρ v v := by
  cases v with
  | agg cs => exact .agg (L2.refl_of fun x hx => .same (by simp only [AI.flat, List.all_eq_true] at h; exact h x hx))
  | _ => exact .cell (.same (by simpa [AI.flat] using h))
theorem VT.of_plain {ρ : Ren} {v : Value} (h : AI.plain v = true) : VT ρ v v := by
  cases v with
  | tuple vs => exact .tup (L2.refl_of fun x hx => .of_flat (by simp only [AI.plain, List.all_eq_true] at h; exact h x hx))
  | _ => exact .one (.of_flat (by simpa [AI.plain] using h))
theorem VT.undef (ρ : Ren) : VT ρ undef undef := VT.of_plain (by decide)

theorem VT.to_R {ρ : Ren} {v v' : Value} (h : VT ρ v v') (hn : notTuple v = true) : VR ρ v v' := by
  cases h with
  | one h => exact h
  | tup h => simp [notTuple] at hn
theorem VR.cells {ρ : Ren} {v v' : Value} (h : VR ρ v v') : L2 (VC ρ) v.cells.toList v'.cells.toList := by
  cases h with
  | agg h => exact h
  | cell h => cases h with
    | same hs => cases v <;> first | (simp [AI.scalar] at hs; done) | exact .cons (.same hs) .nil
    | ptr h => exact .cons (.ptr h) .nil
    | sl h hn h0 => exact .cons (.sl h hn h0) .nil
    | anon a' c' => exact .cons (.anon a' c') .nil
    | map h => exact .cons (.map h) .nil
    | fn h1 h2 => exact .cons (.fn h1 h2) .nil
theorem VC.oneC {ρ : Ren} {v v' : Value} (h : VC ρ v v') : oneC v = true ∧ Value.oneCell' v' = true := by
  cases h with
  | same hs => cases v <;> first | (simp [AI.scalar] at hs; done) | exact ⟨rfl, rfl⟩
  | _ => exact ⟨rfl, rfl⟩

end Go.AI
