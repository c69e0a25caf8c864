/- The abstract machine and the model: memory. -/
import Derived.Test.YthjieekbbhhjgaaDoorE3
namespace Go.AI
open Go.RowKit

def writable : AObj → Bool
  | .gone => false
  | .cells _ _ k => decide (0 < k)
  | .map _ => true

/-- What an abstract block says of the block of memory that it stands for. -/
def OR (P : Program) (B : Nat) (ρ : Ren) (w : World) (e : Ent) : AObj → Prop
  | .gone => True
  | .cells cs _ 0 => e.blk < B ∧ ∃ ys, L2 (VC ρ) cs ys ∧ ∀ (i : Nat) (v : Value), ys[i]? = some v → w.cell? ⟨e.blk, e.base + i, none⟩ = some v
  | .cells cs elem (k + 1) => B ≤ e.blk ∧ e.base = 0 ∧ ∃ cur : Array Value, w.heap[e.blk]? = some (.cells cur elem (0, 0)) ∧
      (∃ ys rest, cur.toList = ys ++ rest ∧ L2 (VC ρ) cs ys) ∧ (k = 1 → ∃ s, 0 < s ∧ sizeB P elem = some s ∧ cur.size = e.cap * s ∧ e.cap ≤ maxLen)
  | .map es => B ≤ e.blk ∧ ∃ (ents : Array MapEntry) (clock : Nat), w.heap[e.blk]? = some (.map ents clock) ∧
      L2 (fun kv me => plain kv.1 = true ∧ me.key = kv.1 ∧ VR ρ kv.2 me.val) es ents.toList

structure HR (P : Program) (B : Nat) (ρ : Ren) (H : Heap) (w : World) : Prop where
  dom : ∀ b, b < H.n → ∃ e, ρ b = some e
  lt : ∀ b e, ρ b = some e → b < H.n
  objs : ∀ b o, H.get b = some o → b < H.n
  obj : ∀ b o e, H.get b = some o → ρ b = some e → OR P B ρ w e o
  inj : ∀ b b' o o' e e', H.get b = some o → H.get b' = some o' → ρ b = some e → ρ b' = some e' → writable o = true → writable o' = true → b ≠ b' → e.blk ≠ e'.blk
  top : ∀ b e, ρ b = some e → e.blk < w.heap.size
  glob : ∀ g, g < P.globals.size → ∃ c, ρ g = some ⟨g, 0, c⟩
  old : B ≤ w.heap.size

structure Ext (B : Nat) (ρ ρ' : Ren) (lo : Nat) (w w' : World) : Prop where
  le : Ren.le ρ ρ'
  os : w'.os = w.os
  tape : w'.tape = w.tape
  output : w'.output = w.output
  size : w.heap.size ≤ w'.heap.size
  block : ∀ k, k < w.heap.size → (∀ b e, lo ≤ b → ρ b = some e → B ≤ e.blk → e.blk ≠ k) → w'.heap[k]? = w.heap[k]?
  fresh : ∀ b e, ρ b = none → ρ' b = some e → w.heap.size ≤ e.blk ∨ ∃ b0 e0, lo ≤ b0 ∧ ρ b0 = some e0 ∧ B ≤ e0.blk ∧ e0.blk = e.blk

theorem Ext.refl (B : Nat) (ρ : Ren) (lo : Nat) (w : World) : Ext B ρ ρ lo w w :=
  ⟨Ren.le_refl _, rfl, rfl, rfl, Nat.le_refl _, fun _ _ _ => rfl, fun b e h h' => by rw [h] at h'; cases h'⟩

theorem Ext.trans {B : Nat} {ρ ρ1 ρ2 : Ren} {lo1 lo2 : Nat} {w w1 w2 : World} (h : Ext B ρ ρ1 lo1 w w1) (k : Ext B ρ1 ρ2 lo2 w1 w2) : Ext B ρ ρ2 (min lo1 lo2) w w2 := by
  refine ⟨Ren.le_trans h.le k.le, k.os.trans h.os, k.tape.trans h.tape, k.output.trans h.output, Nat.le_trans h.size k.size, fun i hi hc => ?_, fun b e hn hb => ?_⟩
  · refine (k.block i (Nat.lt_of_lt_of_le hi h.size) fun b e hlo hb hB => ?_).trans (h.block i hi fun b e hlo hb hB => hc b e (by omega) hb hB)
    cases hρ : ρ b with
    | some e' =>
      have := h.le _ _ hρ
      rw [hb] at this; cases this
      exact hc b e (by omega) hρ hB
    | none =>
      rcases h.fresh b e hρ hb with h1 | ⟨b0, e0, h1, h2, h3, h4⟩
      · omega
      · rw [← h4]; exact hc b0 e0 (by omega) h2 h3
  · cases hρ : ρ1 b with
    | some e1 =>
      have := k.le _ _ hρ
      rw [hb] at this; cases this
      rcases h.fresh b e hn hρ with h1 | ⟨b0, e0, h1, h2, h3, h4⟩
      · exact .inl h1
      · exact .inr ⟨b0, e0, by omega, h2, h3, h4⟩
    | none =>
      rcases k.fresh b e hρ hb with h1 | ⟨b0, e0, h1, h2, h3, h4⟩
      · exact .inl (Nat.le_trans h.size h1)
      · cases h5 : ρ b0 with
        | some e5 =>
          have := h.le _ _ h5
          rw [h2] at this; cases this
          exact .inr ⟨b0, e0, by omega, h5, h3, h4⟩
        | none =>
          rcases h.fresh b0 e0 h5 h2 with h6 | ⟨b6, e6, h6, h7, h8, h9⟩
          · exact .inl (by omega)
          · exact .inr ⟨b6, e6, by omega, h7, h8, by omega⟩
theorem Ext.lower {B : Nat} {ρ ρ' : Ren} {lo lo' : Nat} {w w' : World} (h : Ext B ρ ρ' lo w w') (hl : lo' ≤ lo) : Ext B ρ ρ' lo' w w' :=
  ⟨h.le, h.os, h.tape, h.output, h.size, fun k hk hc => h.block k hk fun b e hb => hc b e (Nat.le_trans hl hb), fun b e hn hb => by
    rcases h.fresh b e hn hb with h1 | ⟨b0, e0, h1, h2⟩
    · exact .inl h1
    · exact .inr ⟨b0, e0, Nat.le_trans hl h1, h2⟩⟩
theorem Ext.of_below {B : Nat} {ρ : Ren} (lo : Nat) {w w' : World} (h : Below w.heap.size w w') : Ext B ρ ρ lo w w' :=
  ⟨Ren.le_refl _, h.os, h.tape, h.output, h.size, fun k hk _ => h.block k hk, fun b e hn hb => by rw [hn] at hb; cases hb⟩
/-- Where no old block has been written: nothing that was there has turned. -/
theorem Ext.below {P : Program} {B : Nat} {ρ ρ' : Ren} {H : Heap} {lo : Nat} {w w' : World} (hH : HR P B ρ H w) (h : Ext B ρ ρ' lo w w') (hlo : H.n ≤ lo) : Below w.heap.size w w' :=
  ⟨h.os, h.tape, h.output, h.size, fun k hk => h.block k hk fun b e hb he _ => by have := hH.lt b e he; omega⟩

theorem OR.mono {P : Program} {B : Nat} {ρ ρ' : Ren} {w w' : World} {e : Ent} {o : AObj} (hρ : Ren.le ρ ρ') (hb : w'.heap[e.blk]? = w.heap[e.blk]?) (h : OR P B ρ w e o) : OR P B ρ' w' e o := by
  match o, h with
  | .gone, _ => trivial
  | .cells cs elem 0, ⟨h1, ys, h2, h3⟩ => exact ⟨h1, ys, h2.mono fun _ _ => VC.mono hρ, fun i v hv => by rw [World.cell?_of_block (w := w) (by exact hb)]; exact h3 i v hv⟩
  | .cells cs elem (k + 1), ⟨h1, h2, cur, h3, ⟨ys, rest, h4, h5⟩, h6⟩ => exact ⟨h1, h2, cur, by rw [hb]; exact h3, ⟨ys, rest, h4, h5.mono fun _ _ => VC.mono hρ⟩, h6⟩
  | .map es, ⟨h1, ents, clock, h2, h3⟩ => exact ⟨h1, ents, clock, by rw [hb]; exact h2, h3.mono fun _ _ ⟨a, b, c⟩ => ⟨a, b, c.mono hρ⟩⟩

theorem HR.below {P : Program} {B : Nat} {ρ : Ren} {H : Heap} {w w' : World} (h : HR P B ρ H w) (hb : Below w.heap.size w w') : HR P B ρ H w' :=
  ⟨h.dom, h.lt, h.objs, fun b o e ho he => (h.obj b o e ho he).mono (Ren.le_refl _) (hb.block _ (h.top b e he)), h.inj,
    fun b e he => Nat.lt_of_lt_of_le (h.top b e he) hb.size, h.glob, Nat.le_trans h.old hb.size⟩

def Ren.add (ρ : Ren) (n : Nat) (e : Ent) : Ren := fun b => if b = n then some e else ρ b
theorem Ren.add_eq (ρ : Ren) (n : Nat) (e : Ent) : Ren.add ρ n e n = some e := by simp [Ren.add]
theorem Ren.add_ne (ρ : Ren) {n b : Nat} (e : Ent) (h : b ≠ n) : Ren.add ρ n e b = ρ b := by simp [Ren.add, h]
theorem HR.next_none {P : Program} {B : Nat} {ρ : Ren} {H : Heap} {w : World} (h : HR P B ρ H w) : ρ H.n = none := by
  cases hρ : ρ H.n with
  | none => rfl
  | some e => exact absurd (h.lt _ _ hρ) (Nat.lt_irrefl _)
theorem HR.le_add {P : Program} {B : Nat} {ρ : Ren} {H : Heap} {w : World} (h : HR P B ρ H w) (e : Ent) : Ren.le ρ (Ren.add ρ H.n e) := fun b x hb => by
  rw [Ren.add_ne _ _ (Nat.ne_of_lt (h.lt b x hb))]; exact hb

/-- A new block. -/
theorem HR.alloc {P : Program} {B : Nat} {ρ : Ren} {H : Heap} {w w' : World} (h : HR P B ρ H w) (hb : Below w.heap.size w w') (e : Ent) (o : AObj) (lo : Nat)
    (h1 : w.heap.size ≤ e.blk) (h2 : e.blk < w'.heap.size) (ho : OR P B (Ren.add ρ H.n e) w' e o) :
    HR P B (Ren.add ρ H.n e) (H.new o) w' ∧ Ext B ρ (Ren.add ρ H.n e) lo w w' := by
  have hle := h.le_add e
  have hold : ∀ b x, ρ b = some x → x.blk < w.heap.size := h.top
  have get_old : ∀ b o', (H.new o).get b = some o' → b ≠ H.n → H.get b = some o' := fun b o' hg hne => by rw [Heap.get_new_ne _ _ hne] at hg; exact hg
  refine ⟨⟨?_, ?_, ?_, ?_, ?_, ?_, ?_, Nat.le_trans h.old hb.size⟩, ⟨hle, hb.os, hb.tape, hb.output, hb.size, fun k hk _ => hb.block k hk, ?_⟩⟩
  · intro b hlt
    by_cases hbn : b = H.n
    · exact ⟨e, by rw [hbn, Ren.add_eq]⟩
    · obtain ⟨x, hx⟩ := h.dom b (by simp at hlt; omega)
      exact ⟨x, hle _ _ hx⟩
  · intro b x hx
    by_cases hbn : b = H.n
    · simp [hbn]
    · rw [Ren.add_ne _ _ hbn] at hx; have := h.lt b x hx; simp; omega
  · intro b o' hg
    by_cases hbn : b = H.n
    · simp [hbn]
    · have := h.objs b o' (get_old b o' hg hbn); simp; omega
  · intro b o' x hg hx
    by_cases hbn : b = H.n
    · subst hbn
      rw [Heap.get_new_eq] at hg; cases hg
      rw [Ren.add_eq] at hx; cases hx
      exact ho
    · rw [Ren.add_ne _ _ hbn] at hx
      exact (h.obj b o' x (get_old b o' hg hbn) hx).mono hle (hb.block _ (hold b x hx))
  · intro b b' o1 o2 x x' hg hg' hx hx' hw hw' hne
    by_cases hbn : b = H.n
    · subst hbn
      rw [Ren.add_eq] at hx; cases hx
      rw [Ren.add_ne _ _ (Ne.symm hne)] at hx'
      have := hold b' x' hx'; omega
    · rw [Ren.add_ne _ _ hbn] at hx
      by_cases hbn' : b' = H.n
      · subst hbn'
        rw [Ren.add_eq] at hx'; cases hx'
        have := hold b x hx; omega
      · rw [Ren.add_ne _ _ hbn'] at hx'
        exact h.inj b b' o1 o2 x x' (get_old b o1 hg hbn) (get_old b' o2 hg' hbn') hx hx' hw hw' hne
  · intro b x hx
    by_cases hbn : b = H.n
    · subst hbn; rw [Ren.add_eq] at hx; cases hx; exact h2
    · rw [Ren.add_ne _ _ hbn] at hx
      exact Nat.lt_of_lt_of_le (hold b x hx) hb.size
  · intro g hg
    obtain ⟨c, hc⟩ := h.glob g hg
    exact ⟨c, hle _ _ hc⟩
  · intro b x hn hx
    by_cases hbn : b = H.n
    · subst hbn; rw [Ren.add_eq] at hx; cases hx; exact .inl h1
    · rw [Ren.add_ne _ _ hbn, hn] at hx; cases hx

/-- A block that is written, in place. -/
theorem HR.write {P : Program} {B : Nat} {ρ : Ren} {H : Heap} {w w' : World} (h : HR P B ρ H w) {b : Nat} {o o' : AObj} {e : Ent} (hg : H.get b = some o) (hρ : ρ b = some e) (hw : writable o = true)
    (hB : B ≤ e.blk) (hos : w'.os = w.os) (htape : w'.tape = w.tape) (hout : w'.output = w.output) (hsz : w'.heap.size = w.heap.size) (hk : ∀ k, k ≠ e.blk → w'.heap[k]? = w.heap[k]?)
    (ho : OR P B ρ w' e o') : HR P B ρ (H.set b o') w' ∧ Ext B ρ ρ b w w' := by
  refine ⟨⟨h.dom, h.lt, ?_, ?_, ?_, ?_, h.glob, by rw [hsz]; exact h.old⟩, ⟨Ren.le_refl _, hos, htape, hout, by omega, fun k hlt hc => hk k (fun hkk => hc b e (Nat.le_refl _) hρ hB hkk.symm), fun b e hn hb => by rw [hn] at hb; cases hb⟩⟩
  · intro c o1 hg1
    by_cases hc : c = b
    · subst hc; exact h.objs _ _ hg
    · rw [Heap.get_set_ne _ _ (Ne.symm hc)] at hg1; exact h.objs c o1 hg1
  · intro c o1 x hg1 hx
    by_cases hc : c = b
    · subst hc; rw [Heap.get_set_eq] at hg1; cases hg1; rw [hρ] at hx; cases hx; exact ho
    · rw [Heap.get_set_ne _ _ (Ne.symm hc)] at hg1
      have h1 := h.obj c o1 x hg1 hx
      by_cases hwo : writable o1 = true
      · exact h1.mono (Ren.le_refl _) (hk _ (fun he => h.inj c b o1 o x e hg1 hg hx hρ hwo hw hc he))
      · match o1, h1, hwo with
        | .gone, _, _ => trivial
        | .cells cs elem 0, h1, _ => exact OR.mono (Ren.le_refl _) (hk _ (by have := h1.1; omega)) h1
        | .cells cs elem (k + 1), _, hwo => simp [writable] at hwo
        | .map es, _, hwo => simp [writable] at hwo
  · intro c c' o1 o2 x x' hg1 hg2 hx hx' hw1 hw2 hne
    have key : ∀ c o1, (H.set b o').get c = some o1 → writable o1 = true → ∃ o0, H.get c = some o0 ∧ writable o0 = true := fun c o1 hg1 hw1 => by
      by_cases hc : c = b
      · subst hc; exact ⟨o, hg, hw⟩
      · rw [Heap.get_set_ne _ _ (Ne.symm hc)] at hg1; exact ⟨o1, hg1, hw1⟩
    obtain ⟨p, hp, hpw⟩ := key c o1 hg1 hw1
    obtain ⟨q, hq, hqw⟩ := key c' o2 hg2 hw2
    exact h.inj c c' p q x x' hp hq hx hx' hpw hqw hne
  · intro c x hx; rw [hsz]; exact h.top c x hx

/-- A row that has grown in place: the old block is gone, a new one stands for its memory. -/
theorem HR.grow {P : Program} {B : Nat} {ρ : Ren} {H : Heap} {w w' : World} (h : HR P B ρ H w) {b : Nat} {o o' : AObj} {e : Ent} (hg : H.get b = some o) (hρ : ρ b = some e) (hw : writable o = true)
    (hB : B ≤ e.blk) (hos : w'.os = w.os) (htape : w'.tape = w.tape) (hout : w'.output = w.output) (hsz : w'.heap.size = w.heap.size) (hk : ∀ k, k ≠ e.blk → w'.heap[k]? = w.heap[k]?)
    (ho : OR P B (Ren.add ρ H.n e) w' e o') : HR P B (Ren.add ρ H.n e) ((H.set b .gone).new o') w' ∧ Ext B ρ (Ren.add ρ H.n e) b w w' := by
  have hle := h.le_add e
  obtain ⟨hH, hE⟩ := h.write (o' := .gone) hg hρ hw hB hos htape hout hsz hk trivial
  have hbn : b ≠ H.n := Nat.ne_of_lt (h.lt b e hρ)
  have get_old : ∀ c o1, ((H.set b .gone).new o').get c = some o1 → c ≠ H.n → (H.set b .gone).get c = some o1 := fun c o1 hg hne => by rw [Heap.get_new_ne _ _ (by simpa using hne)] at hg; exact hg
  have get_new : ∀ o1, ((H.set b .gone).new o').get H.n = some o1 → o1 = o' := fun o1 hg => by
    have := Heap.get_new_eq (H.set b .gone) o'
    simp only [Heap.n_set] at this; rw [this] at hg; cases hg; rfl
  refine ⟨⟨?_, ?_, ?_, ?_, ?_, ?_, ?_, hH.old⟩, ⟨hle, hos, htape, hout, by omega, hE.block, ?_⟩⟩
  · intro c hlt
    by_cases hc : c = H.n
    · exact ⟨e, by rw [hc, Ren.add_eq]⟩
    · obtain ⟨x, hx⟩ := h.dom c (by simp at hlt; omega)
      exact ⟨x, hle _ _ hx⟩
  · intro c x hx
    by_cases hc : c = H.n
    · simp [hc]
    · rw [Ren.add_ne _ _ hc] at hx; have := h.lt c x hx; simp; omega
  · intro c o1 hg1
    by_cases hc : c = H.n
    · simp [hc]
    · have := hH.objs c o1 (get_old c o1 hg1 hc); simp at this ⊢; omega
  · intro c o1 x hg1 hx
    by_cases hc : c = H.n
    · subst hc
      rw [get_new o1 hg1]
      rw [Ren.add_eq] at hx; cases hx
      exact ho
    · rw [Ren.add_ne _ _ hc] at hx
      exact (hH.obj c o1 x (get_old c o1 hg1 hc) hx).mono hle rfl
  · intro c c' o1 o2 x x' hg1 hg2 hx hx' hw1 hw2 hne
    have other : ∀ c o1 x, ((H.set b .gone).new o').get c = some o1 → c ≠ H.n → ρ c = some x → writable o1 = true → x.blk ≠ e.blk := fun c o1 x hg1 hc hx hw1 => by
      have hg2 := get_old c o1 hg1 hc
      by_cases hcb : c = b
      · subst hcb; rw [Heap.get_set_eq] at hg2; cases hg2; simp [writable] at hw1
      · rw [Heap.get_set_ne _ _ (Ne.symm hcb)] at hg2
        exact h.inj c b o1 o x e hg2 hg hx hρ hw1 hw hcb
    by_cases hc : c = H.n
    · subst hc
      rw [Ren.add_eq] at hx; cases hx
      rw [Ren.add_ne _ _ (Ne.symm hne)] at hx'
      exact Ne.symm (other c' o2 x' hg2 (Ne.symm hne) hx' hw2)
    · rw [Ren.add_ne _ _ hc] at hx
      by_cases hc' : c' = H.n
      · subst hc'
        rw [Ren.add_eq] at hx'; cases hx'
        exact other c o1 x hg1 hc hx hw1
      · rw [Ren.add_ne _ _ hc'] at hx'
        exact hH.inj c c' o1 o2 x x' (get_old c o1 hg1 hc) (get_old c' o2 hg2 hc') hx hx' hw1 hw2 hne
  · intro c x hx
    by_cases hc : c = H.n
    · subst hc; rw [Ren.add_eq] at hx; cases hx; rw [hsz]; exact h.top b e hρ
    · rw [Ren.add_ne _ _ hc] at hx; rw [hsz]; exact h.top c x hx
  · intro g hg
    obtain ⟨c, hc⟩ := h.glob g hg
    exact ⟨c, hle _ _ hc⟩
  · intro c x hn hx
    by_cases hc : c = H.n
    · subst hc; rw [Ren.add_eq] at hx; cases hx; exact .inr ⟨b, e, Nat.le_refl _, hρ, hB, rfl⟩
    · rw [Ren.add_ne _ _ hc, hn] at hx; cases hx

/-- What an abstract block's cells read as. -/
theorem OR.read {P : Program} {B : Nat} {ρ : Ren} {w : World} {e : Ent} {cs : List Value} {elem k : Nat} (h : OR P B ρ w e (.cells cs elem k)) :
    ∃ ys, L2 (VC ρ) cs ys ∧ ∀ (i : Nat) (v : Value), ys[i]? = some v → w.cell? ⟨e.blk, e.base + i, none⟩ = some v := by
  match k, h with
  | 0, ⟨_, ys, h1, h2⟩ => exact ⟨ys, h1, h2⟩
  | k + 1, ⟨_, hb, cur, h1, ⟨ys, rest, h2, h3⟩, _⟩ =>
    refine ⟨ys, h3, fun i v hv => ?_⟩
    have : cur[i]? = some v := by
      rw [← Array.getElem?_toList, h2, List.getElem?_append_left (List.getElem?_eq_some_iff.1 hv).1]; exact hv
    simp [World.cell?, h1, hb, this]

end Go.AI
