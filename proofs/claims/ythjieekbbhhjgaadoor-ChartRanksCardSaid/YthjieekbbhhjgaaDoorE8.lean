/- The abstract machine and the model: operations that make memory, or write. -/
import Derived.Test.YthjieekbbhhjgaaDoorE7
namespace Go.AI
open Go.RowKit
section
variable {P : Program} {B : Nat} {ρ : Ren} {H : Heap} {w : World} {tm : Tm} {a : Act}

/-- What an operation comes to: its value, what memory is then, and what may have been written. -/
def YD (P : Program) (B : Nat) (ρ : Ren) (w : World) (v : Value) (H' : Heap) (lo : Nat) (r : World → Value → World → Prop) : Prop :=
  ∃ ρ' v' w', r w v' w' ∧ VT ρ' v v' ∧ HR P B ρ' H' w' ∧ Ext B ρ ρ' lo w w'

/-- New cells, in a new block. -/
theorem HR.newCells (hH : HR P B ρ H w) {w1 : World} (hw1 : Below w.heap.size w w1) (hsz : w1.heap.size = w.heap.size) (cs : List Value) (cur : Array Value) (elem k cap lo : Nat) (ys rest : List Value) (hcur : cur.toList = ys ++ rest)
    (h2 : L2 (VC ρ) cs ys) (hk : k = 1 → ∃ s, 0 < s ∧ sizeB P elem = some s ∧ cur.size = cap * s ∧ cap ≤ maxLen) :
    HR P B (Ren.add ρ H.n ⟨w.heap.size, 0, cap⟩) (anew H cs elem (k + 1)) (w1.alloc (.cells cur elem)) ∧ Ext B ρ (Ren.add ρ H.n ⟨w.heap.size, 0, cap⟩) lo w (w1.alloc (.cells cur elem)) := by
  have hb : Below w.heap.size w (w1.alloc (.cells cur elem)) := hw1.alloc (by omega) _
  refine hH.alloc hb ⟨w.heap.size, 0, cap⟩ (.cells cs elem (k + 1)) lo (Nat.le_refl _) (by simp [hsz]) ?_
  refine ⟨hH.old, rfl, cur, ?_, ⟨ys, rest, hcur, h2.mono fun _ _ => VC.mono (hH.le_add _)⟩, hk⟩
  show (w1.alloc (.cells cur elem)).heap[w.heap.size]? = _
  rw [← hsz]; exact heap_alloc_new w1 _

theorem y_alloc (hH : HR P B ρ H w) {t : TypeId} {i : TypeInfo} {z : Value} (hi : P.info? t = some i) (hz : i.zero = some z) (hs : z.cells.toList.all scalar = true) :
    YD P B ρ w (.pointer (some ⟨H.n, 0, none⟩)) (anew H z.cells.toList t 1) H.n (fun w v' w' => (Instr.alloc t true (.tuple #[])).run P w = .ok v' w') := by
  have h2 : L2 (VC ρ) z.cells.toList z.cells.toList := L2.refl_of fun x hx => .same (List.all_eq_true.1 hs x hx)
  obtain ⟨h3, h4⟩ := hH.newCells (Below.refl _ w) rfl z.cells.toList z.cells t 0 0 H.n z.cells.toList [] (by simp) h2 (fun h => by cases h)
  refine ⟨_, _, _, ?_, .one (.cell (.ptr (i := 0) (Ren.add_eq ρ H.n ⟨w.heap.size, 0, 0⟩))), h3, h4⟩
  simp [Instr.alloc, run_zero hi hz, newVar, newRow]

theorem y_box (hH : HR P B ρ H w) {t : TypeId} {v x' : Value} (hx : VT ρ v x') (hn : notTuple v = true) :
    YD P B ρ w (.pointer (some ⟨H.n, 0, none⟩)) (anew H v.cells.toList t 1) H.n (fun w v' w' => (Instr.box t x').run P w = .ok v' w') := by
  obtain ⟨h3, h4⟩ := hH.newCells (Below.refl _ w) rfl v.cells.toList x'.cells t 0 0 H.n x'.cells.toList [] (by simp) (hx.to_R hn).cells (fun h => by cases h)
  refine ⟨_, _, _, ?_, .one (.cell (.ptr (i := 0) (Ren.add_eq ρ H.n ⟨w.heap.size, 0, 0⟩))), h3, h4⟩
  simp [Instr.box, newVar, newRow]

theorem y_makeMap (hH : HR P B ρ H w) (t : TypeId) :
    YD P B ρ w (.map (some H.n)) (H.new (.map [])) H.n (fun w v' w' => (Instr.makeMap t none).run P w = .ok v' w') := by
  obtain ⟨h3, h4⟩ := hH.alloc (w' := w.alloc (.map #[] 0)) ((Below.refl _ w).alloc (Nat.le_refl _) _) ⟨w.heap.size, 0, 0⟩ (.map []) H.n (Nat.le_refl _) (by simp)
    ⟨hH.old, #[], 0, heap_alloc_new w _, .nil⟩
  refine ⟨_, _, _, ?_, .one (.cell (.map (Ren.add_eq ρ H.n ⟨w.heap.size, 0, 0⟩))), h3, h4⟩
  simp [Instr.makeMap]

theorem zeros_prefix (z : Array Value) (m n : Nat) (h : m ≤ n) : ∃ rest, (madeCells z n).toList = zeros z m ++ rest := by
  refine ⟨(madeCells z n).toList.drop m, ?_⟩
  have : zeros z m = (madeCells z n).toList.take m := by
    rw [madeCells, Array.toList_map, Array.toList_range, ← List.map_take, List.take_range, Nat.min_eq_left h]; rfl
  rw [this, List.take_append_drop]

theorem get!_mem (z : Array Value) (i : Nat) (h : 0 < z.size) : z[i % z.size]! ∈ z.toList := by
  have : i % z.size < z.size := Nat.mod_lt _ h
  rw [getElem!_pos z _ this]
  simp

theorem zeros_ok (z : Array Value) (n : Nat) (hs : z.toList.all scalar = true) (h : 0 < z.size) : L2 (VC ρ) (zeros z n) (zeros z n) :=
  L2.refl_of fun x hx => by
    simp only [zeros, List.mem_map] at hx
    obtain ⟨i, _, rfl⟩ := hx
    exact .same (List.all_eq_true.1 hs _ (get!_mem z i h))

theorem y_makeSlice (hH : HR P B ρ H w) {t : TypeId} {l c v l' c' : Value} {H' : Heap} {lo : Nat} (hl : VT ρ l l') (hc : VT ρ c c') (h : amakeSlice P H t l c = some (v, H', lo)) :
    YD P B ρ w v H' lo (fun w v' w' => (Instr.makeSlice t l' c').run P w = .ok v' w') := by
  unfold amakeSlice at h
  split at h
  · rename_i elem l c hu
    split at h
    · rename_i info hi
      split at h
      · rename_i z hz
        split at h <;> cases h
        rename_i hc0
        obtain ⟨h0, h1, h2, h3, h4, h5, h6⟩ := hc0
        rw [vt_int hl, vt_int hc]
        have hzs : 0 < z.cells.size := by omega
        obtain ⟨rest, hr⟩ := zeros_prefix z.cells (l.toNat * info.size) (c.toNat * info.size) (Nat.mul_le_mul_right _ (by omega))
        obtain ⟨h7, h8⟩ := hH.newCells (Below.refl _ w) rfl (zeros z.cells (l.toNat * info.size)) (madeCells z.cells (c.toNat * info.size)) elem 1 c.toNat H.n _ rest hr (zeros_ok _ _ h6 hzs)
          (fun _ => ⟨info.size, h4, by simp [sizeB, hi], size_madeCells _ _, by simp [maxLen]; omega⟩)
        refine ⟨_, .slice (some ⟨w.heap.size, 0, none⟩) l.toNat c.toNat, _, ?_, .one (.cell (.sl (i := 0) (Ren.add_eq ρ H.n ⟨w.heap.size, 0, c.toNat⟩) (by omega) (fun _ => ⟨rfl, rfl, rfl⟩))), h7, h8⟩
        exact run_make w t elem info z hu hi hz .i64 .i64 l c h0 h1 h3 h2
      · cases h
    · cases h
  · cases h

theorem fillL_length (place : Nat → Option (Nat × Nat)) : ∀ (parts : List (Nat × Value)) (cs r : List Value), fillL place cs parts = some r → r.length = cs.length
  | [], cs, r, h => by simp only [fillL, Option.some.injEq] at h; rw [h]
  | (i, v) :: parts, cs, r, h => by
    simp only [fillL] at h
    split at h
    · cases h
    · split at h
      · cases h
      · rw [fillL_length place parts _ r h, splice_length]

theorem y_buildSlice (hH : HR P B ρ H w) (hF : FR ρ tm a) {t : TypeId} {len : Nat} {parts : Array (Nat × Operand)} {l : List (Nat × Value)} {v : Value} {H' : Heap} {lo : Nat} (hl : evParts P tm parts.toList = some l) (h : abuildSlice P H t len l = some (v, H', lo)) :
    YD P B ρ w v H' lo (fun w v' w' => (Instr.buildSlice t len (parts.map fun (i, x) => (i, a.eval x))).run P w = .ok v' w') := by
  have hp := evParts_sound hH hF _ _ hl
  unfold abuildSlice at h
  split at h
  · rename_i elem hu
    split at h
    · rename_i info hi
      split at h
      · rename_i z hz
        split at h
        · rename_i hc
          obtain ⟨h0, h1, h2, h3⟩ := hc
          split at h
          · rename_i cs hf
            cases h
            have hzs : 0 < z.cells.size := by omega
            have hz2 : L2 (VC ρ) (zeros z.cells (len * info.size)) (madeCells z.cells (len * info.size)).toList := by
              obtain ⟨rest, hr⟩ := zeros_prefix z.cells (len * info.size) (len * info.size) (Nat.le_refl _)
              have := zeros_ok (ρ := ρ) z.cells (len * info.size) h2 hzs
              have h5 : (madeCells z.cells (len * info.size)).toList = zeros z.cells (len * info.size) := by simp [madeCells, zeros]
              rw [h5]; exact this
            obtain ⟨r', h5, h6⟩ := fill_sim (fun i => some (i * info.size, info.size)) (fun i => some (i * info.size, info.size)) (fun _ _ h => h) _ _ _ _ _ hp hz2 hf
            have hsz : r'.size = len * info.size := by
              have e1 := h6.length
              have e2 := fillL_length _ _ _ _ hf
              simp [zeros] at e1 e2; omega
            obtain ⟨h7, h8⟩ := hH.newCells (Below.refl _ w) rfl cs r' elem 1 len H.n r'.toList [] (by simp) h6
              (fun _ => ⟨info.size, h0, by simp [sizeB, hi], hsz, by
                have : len ≤ len * info.size := Nat.le_mul_of_pos_right _ h0
                simp [maxLen]; omega⟩)
            refine ⟨_, .slice (some ⟨w.heap.size, 0, none⟩) len len, _, ?_, .one (.cell (.sl (i := 0) (Ren.add_eq ρ H.n ⟨w.heap.size, 0, len⟩) (Nat.le_refl _) (fun _ => ⟨rfl, rfl, rfl⟩))), h7, h8⟩
            have hsz' : sizeB P elem = some info.size := by simp [sizeB, hi]
            show (Instr.buildSlice t len _).run P w = _
            unfold Instr.buildSlice
            rw [Sem.run_bind, run_underlying hu, Result.andThen_ok]
            simp only [Sem.run_bind, run_sz hsz', Result.andThen_ok]
            have hn : ¬ len * info.size > 2 ^ 24 := by omega
            rw [if_neg hn]
            by_cases h9 : len * info.size = 0
            · have hmk : (Array.range (len * info.size)).map (fun x => (#[] : Array Value)[x % (#[] : Array Value).size]!) = madeCells z.cells (len * info.size) := by simp [madeCells, h9]
              rw [if_pos h9, Sem.run_bind, Sem.run_pure, Result.andThen_ok, hmk, Array.toList_map, h5]
              simp [newRow]
            · rw [if_neg h9, Sem.run_bind, run_zero hi hz, Result.andThen_ok, Sem.run_bind, Sem.run_pure, Result.andThen_ok]
              have hmk : (Array.range (len * info.size)).map (fun x => z.cells[x % z.cells.size]!) = madeCells z.cells (len * info.size) := rfl
              rw [hmk, Array.toList_map, h5]
              simp [newRow]
          · cases h
        · cases h
      · cases h
    · cases h
  · cases h

end
end Go.AI
