/- From a call of the abstract machine to a call of the model. -/
import Derived.Test.YthjieekbbhhjgaaDoorEm
import Derived.Below
namespace Go.AI
open Go.RowKit
section
variable {P : Program} [Oracle P]

theorem run_of {B : Nat} {ρ : Ren} {H : Heap} {w : World} {f : FuncId} {l : List Value} {args : Array Value} {Q : Value → Heap → Prop} (hm : P.follows .mixedOrders = true) (hO : OracleOK P B) (hH : HR P B ρ H w) (hl : L2 (VT ρ) l args.toList) (h : CallB P H.n f l H Q) :
    Calls P f args w fun e w' => ∃ v v' H' ρ', e = .returned v' ∧ VT ρ' v v' ∧ Q v H' ∧ Below w.heap.size w w' := by
  obtain ⟨k, v, H', lo, h1, h2, h3⟩ := h.run.out
  refine callsIn_wide.1 ((call_sound hO hm k f l H v H' lo h1 ρ w args 0 hH hl).mono ?_)
  rintro e w' ⟨ρ', v', rfl, h4, h5, h6⟩
  exact ⟨v, v', H', ρ', rfl, h4, h3, h6.below hH h2.1⟩
end

/-- What a world's blocks below B say of blocks that are only read: an entry each. -/
structure Seen where
  ent : Ent
  obj : AObj
def seenR (l : List Seen) : Ren := fun b => (l[b]?).map (·.ent)
def seenH (l : List Seen) : Heap := baseHeap (l.map (·.obj))
theorem seen_hr {P : Program} {w : World} (l : List Seen) (hB : ∀ s ∈ l, s.ent.blk < w.heap.size) (hc : ∀ s ∈ l, calm s.obj = true)
    (ho : ∀ s ∈ l, ∀ cs e k, s.obj = .cells cs e k → ∀ (i : Nat) v, cs[i]? = some v → w.cell? ⟨s.ent.blk, s.ent.base + i, none⟩ = some v)
    (hg : ∀ g, g < P.globals.size → ∃ c, (l[g]?).map (·.ent) = some ⟨g, 0, c⟩) : HR P w.heap.size (seenR l) (seenH l) w := by
  have hget : ∀ b o, (seenH l).get b = some o → ∃ s, l[b]? = some s ∧ s.obj = o := by
    intro b o h
    rw [seenH, base_get, List.getElem?_map] at h
    cases hs : l[b]? with
    | none => rw [hs] at h; cases h
    | some s => rw [hs] at h; exact ⟨s, rfl, Option.some.inj h⟩
  have hr : ∀ b e, seenR l b = some e → ∃ s, l[b]? = some s ∧ s.ent = e := by
    intro b e h
    rw [seenR] at h
    cases hs : l[b]? with
    | none => rw [hs] at h; cases h
    | some s => rw [hs] at h; exact ⟨s, rfl, Option.some.inj h⟩
  refine ⟨fun b hb => ?_, fun b e hb => ?_, fun b o hb => ?_, fun b o e hb he => ?_, fun b b' o o' e e' hb hb' he he' hw hw' => ?_, fun b e hb => ?_, hg, Nat.le_refl _⟩
  · rw [seenH, base_n, List.length_map] at hb
    exact ⟨l[b].ent, by rw [seenR, List.getElem?_eq_getElem hb]; rfl⟩
  · obtain ⟨s, hs, _⟩ := hr b e hb
    rw [seenH, base_n, List.length_map]; exact (List.getElem?_eq_some_iff.1 hs).1
  · obtain ⟨s, hs, _⟩ := hget b o hb
    rw [seenH, base_n, List.length_map]; exact (List.getElem?_eq_some_iff.1 hs).1
  · obtain ⟨s, hs, rfl⟩ := hget b o hb
    obtain ⟨s', hs', rfl⟩ := hr b e he
    rw [hs] at hs'; cases hs'
    have hmem := List.mem_of_getElem? hs
    have h1 := hc s hmem
    cases hobj : s.obj with
    | gone => trivial
    | cells cs e k =>
      rw [hobj] at h1
      cases k with
      | zero => exact ⟨hB s hmem, cs, scalars_refl _ h1, ho s hmem cs e 0 hobj⟩
      | succ k => cases h1
    | map es => rw [hobj] at h1; cases h1
  · obtain ⟨s, hs, rfl⟩ := hget b o hb
    have h1 := hc s (List.mem_of_getElem? hs)
    cases hobj : s.obj with
    | gone => rw [hobj] at hw; cases hw
    | cells cs e k =>
      rw [hobj] at h1 hw
      cases k with
      | zero => simp [writable] at hw
      | succ k => cases h1
    | map es => rw [hobj] at h1; cases h1
  · obtain ⟨s, hs, rfl⟩ := hr b e hb
    exact hB s (List.mem_of_getElem? hs)
theorem seen_get {l : List Seen} {b : Nat} {s : Seen} (h : l[b]? = some s) : (seenH l).get b = some s.obj := by
  rw [seenH, base_get, List.getElem?_map, h]; rfl
theorem seen_n (l : List Seen) : (seenH l).n = l.length := by rw [seenH, base_n, List.length_map]

/-- A slice of ints of the model, and how it is seen: where its block lies, and what names it. -/
theorem seen_ints {w : World} {a : Option Addr} {len cap : Nat} {zs : List Int} (n : Nat) (hw : 0 < w.heap.size) (h : (a = none ∧ len = 0 ∧ cap = 0 ∧ zs = []) ∨ ∃ x, a = some x ∧ len ≤ cap ∧ len ≤ zs.length ∧ (∀ i, i < zs.length → w.cell? (x.add i) = some (.int .i64 (zs.getD i 0)))) :
    ∃ (s : Seen) (v : Value), s.ent.blk < w.heap.size ∧ calm s.obj = true ∧ (∀ cs e k, s.obj = .cells cs e k → ∀ (i : Nat) v, cs[i]? = some v → w.cell? ⟨s.ent.blk, s.ent.base + i, none⟩ = some v) ∧
      (∀ ρ : Ren, ρ n = some s.ent → VT ρ v (.slice a len cap)) ∧ (∀ H : Heap, n < H.n → H.get n = some s.obj → Ints H v (zs.take len)) := by
  rcases h with ⟨rfl, rfl, rfl, rfl⟩ | ⟨x, rfl, hl, hz, hcell⟩
  · exact ⟨⟨⟨0, 0, 0⟩, .gone⟩, .slice none 0 0, hw, rfl, (fun _ _ _ h => by cases h), fun ρ _ => .one (.cell (.same rfl)), fun H _ _ => .inl ⟨rfl, by simp⟩⟩
  · by_cases h0 : len = 0
    · subst h0
      exact ⟨⟨⟨0, 0, 0⟩, .gone⟩, anon, hw, rfl, (fun _ _ _ h => by cases h), fun ρ _ => .one (.cell (.anon _ _)), fun H _ _ => .inr (.inl ⟨rfl, by simp⟩)⟩
    · have hc := hcell 0 (by omega)
      obtain ⟨b, off, spot⟩ := x
      have hspot : spot = none := by simpa [Addr.add] using World.cell?_spot hc
      subst hspot
      have hb : b < w.heap.size := by
        apply Classical.byContradiction
        intro hb
        have : w.heap[b]? = none := by simp; omega
        simp [World.cell?, Addr.add, this] at hc
      refine ⟨⟨⟨b, off, 0⟩, .cells ((zs.take len).map (Value.int .i64)) 3 0⟩, .slice (some ⟨n, 0, none⟩) len 1, hb, ?_, ?_, ?_, ?_⟩
      · exact List.all_map.trans (List.all_eq_true.2 fun _ _ => rfl)
      · intro cs e k hcs i v hv
        cases hcs
        rw [List.getElem?_map] at hv
        cases hzi : (zs.take len)[i]? with
        | none => rw [hzi] at hv; cases hv
        | some z =>
          rw [hzi] at hv
          cases hv
          have hil : i < (zs.take len).length := (List.getElem?_eq_some_iff.1 hzi).1
          have hiz : i < zs.length := by simp at hil; omega
          have := hcell i hiz
          have hzi' : zs.getD i 0 = z := by
            have h1 := (List.getElem?_eq_some_iff.1 hzi).2
            simp at h1
            simp [List.getD_eq_getElem?_getD, hiz, h1]
          rw [hzi'] at this
          by_cases hi0 : i = 0
          · subst hi0; simpa [Addr.add] using this
          · simpa [Addr.add, hi0] using this
      · intro ρ hρ
        have := VC.sl (ρ := ρ) (b := n) (i := 0) (n := len) (c := 1) (c' := cap) hρ hl (by intro h; cases h)
        exact .one (.cell (by simpa using this))
      · intro H hn hg
        refine .inr (.inr ⟨n, 0, 1, _, 3, 0, ?_, hn, hg, by simp, by simp, fun j w hj => by simpa using hj⟩)
        simp; omega
end Go.AI
