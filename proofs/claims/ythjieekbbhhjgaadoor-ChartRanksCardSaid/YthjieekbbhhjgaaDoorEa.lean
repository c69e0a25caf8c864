/- The abstract machine and the model: a map's update; one operation that calls no function. -/
import Derived.Test.YthjieekbbhhjgaaDoorE9
namespace Go.AI
open Go.RowKit
section
variable {P : Program} {B : Nat} {ρ : Ren} {H : Heap} {w : World} {tm : Tm} {a : Act}

theorem findA_at (kd : TypeDesc) (k : Value) : ∀ (es : List (Value × Value)) (i j : Nat) (v : Value), findA kd k es i = some (some (j, v)) → ∃ p kv, j = i + p ∧ es[p]? = some kv ∧ Instr.sameNow kd k kv.1 = some true
  | [], i, j, v, h => by simp [findA] at h
  | e :: es, i, j, v, h => by
    simp only [findA] at h
    split at h
    · rename_i hs; simp at h; exact ⟨0, e, by omega, rfl, hs⟩
    · obtain ⟨p, kv, h1, h2, h3⟩ := findA_at kd k es _ _ _ h
      exact ⟨p + 1, kv, by omega, by simpa using h2, h3⟩
    · cases h

theorem sameNow_bits {d : TypeDesc} {x y : Value} (h : Instr.sameNow d x y = some true) : Instr.sameBits 10000 y x = true := by
  unfold Instr.sameNow at h
  split at h
  · split at h
    · rename_i hk; subst hk; simp at h; subst h; simp [Instr.sameBits]
    · cases h
  · rename_i a b
    simp only [Option.some.injEq] at h
    obtain ⟨x⟩ := a
    obtain ⟨y⟩ := b
    have h' : (x == y) = true := h
    have e := eq_of_beq h'
    subst e
    exact h
  · simp at h; subst h; simp [Instr.sameBits]
  · cases h

theorem y_mapUpdate (hH : HR P B ρ H w) {t : TypeId} {x k v x' k' v' : Value} {H' : Heap} {lo : Nat} (hx : VT ρ x x') (hk : VT ρ k k') (hv : VT ρ v v') (h : amapUpdate P H t x k v = some (H', lo)) :
    YD P B ρ w undef H' lo (fun w _ w' => (Instr.mapUpdate t x' k' v').run P w = .ok () w') := by
  unfold amapUpdate at h
  split at h
  · rename_i kt et r hu
    split at h
    · rename_i es kd hg hkd
      split at h
      · rename_i hc
        obtain ⟨c1, c2, c3⟩ := hc
        obtain ⟨u, hu4⟩ := Option.isSome_iff_exists.1 c3
        rw [hk.plain c1]
        obtain ⟨e, hρ, rfl⟩ := vt_map hx
        obtain ⟨hB, ents, clock, hh, hl⟩ := hH.obj _ _ _ hg hρ
        have hck : (Instr.checkKey false 10000 kt k).run P w = .ok u w := pureRun_run P _ _ hu4 w
        have hs := findA_sim (ρ := ρ) kd k es ents.toList 0 hl
        have hlt : e.blk < w.heap.size := hH.top _ _ hρ
        have write : ∀ (ents' : Array MapEntry) (clock' : Nat) (es' : List (Value × Value)), L2 (MR ρ) es' ents'.toList →
            HR P B ρ (H.set r (.map es')) { w with heap := w.heap.setIfInBounds e.blk (.map ents' clock') } ∧ Ext B ρ ρ r w { w with heap := w.heap.setIfInBounds e.blk (.map ents' clock') } := fun ents' clock' es' hl' =>
          hH.write (o' := .map es') hg hρ rfl hB rfl rfl rfl (by simp) (fun j hj => by simp [Array.getElem?_setIfInBounds, Ne.symm hj])
            ⟨hB, ents', clock', by simp [hlt], hl'⟩
        split at h
        · rename_i j v0 hfa
          cases h
          obtain ⟨v1, hf, _⟩ := hs.2 _ _ hfa
          obtain ⟨p, kv, hj, hkv, hsame⟩ := findA_at kd k es 0 j v0 hfa
          simp only [Nat.zero_add] at hj
          subst hj
          obtain ⟨me, hme, hm1, hm2, hm3⟩ := hl.get hkv
          have hme' : ents[j]? = some me := by simpa using hme
          have hl' : L2 (MR ρ) (es.set j (k, v)) (ents.modify j fun e => { e with key := k, val := v' }).toList := by
            refine L2.of_get (by simpa using hl.length) fun i x y hx hy => ?_
            rw [Array.getElem?_toList, Array.getElem?_modify] at hy
            by_cases hij : j = i
            · subst hij
              rw [List.getElem?_set_self (List.getElem?_eq_some_iff.1 hkv).1] at hx
              cases hx
              rw [if_pos rfl, hme'] at hy
              simp at hy; subst hy
              exact ⟨c1, rfl, hv.to_R c2⟩
            · rw [List.getElem?_set_ne hij] at hx
              rw [if_neg hij] at hy
              exact hl.both hx (by simpa using hy)
          obtain ⟨h3, h4⟩ := write (ents.modify j fun e => { e with key := k, val := v' }) clock _ hl'
          refine ⟨ρ, undef, _, ?_, VT.undef ρ, h3, h4⟩
          have hstay : (Instr.keyThatStays kv.1 k).run P w = .ok k w := by unfold Instr.keyThatStays; rw [if_pos (sameNow_bits hsame)]; rfl
          simp [Instr.mapUpdate, run_underlying hu, getObj, Sem.run, hh, hck, Instr.findKey, run_underlying hkd, hf, hme', hm2, hstay, setObj]
        · rename_i hfa
          cases h
          have hf := hs.1 hfa
          have hl' : L2 (MR ρ) (es ++ [(k, v)]) (ents.push { key := k, val := v', born := clock }).toList := by
            rw [Array.toList_push]
            exact hl.append (.cons ⟨c1, rfl, hv.to_R c2⟩ .nil)
          obtain ⟨h3, h4⟩ := write (ents.push { key := k, val := v', born := clock }) (clock + 1) _ hl'
          refine ⟨ρ, undef, _, ?_, VT.undef ρ, h3, h4⟩
          simp [Instr.mapUpdate, run_underlying hu, getObj, Sem.run, hh, hck, Instr.findKey, run_underlying hkd, hf, setObj]
        · cases h
      · cases h
    · cases h
  · cases h

end
end Go.AI
