/- Several texts in one. -/
import Derived.Test.YtkfaiokiaahbaaaDoorX1
import Derived.LoopNIn
set_option linter.unusedVariables false
set_option linter.unusedSimpArgs false
/- The abstract machine and the model: building values, maps that are read, bytes to a string. -/
namespace Go.AI
open Go.RowKit
section
variable {P : Program} {B : Nat} {ρ : Ren} {H : Heap} {w : World} {tm : Tm} {a : Act}

theorem fill_toList (off : Nat) : ∀ (l : List Value) (k : Nat) (cs : Array Value), ((l.zipIdx k).foldl (fun (cs : Array Value) (p : Value × Nat) => cs.setIfInBounds (off + p.2) p.1) cs).toList = splice cs.toList (off + k) l
  | [], _, _ => rfl
  | v :: l, k, cs => by
    rw [List.zipIdx_cons, List.foldl_cons, fill_toList off l (k + 1)]
    simp [splice, Nat.add_assoc]

abbrev PR (ρ : Ren) (p q : Nat × Value) : Prop := p.1 = q.1 ∧ VT ρ p.2 q.2

theorem vt_cells_size {v v' : Value} (h : VT ρ v v') (hn : notTuple v = true) : v'.cells.size = v.cells.size := by
  have := (h.to_R hn).cells.length
  simpa using this.symm

theorem fill_sim (place place' : Nat → Option (Nat × Nat)) (hp : ∀ i p, place i = some p → place' i = some p) : ∀ (parts : List (Nat × Value)) (parts' : List (Nat × Value)) (cs : List Value) (cs' : Array Value) (r : List Value),
    L2 (PR ρ) parts parts' → L2 (VC ρ) cs cs'.toList → fillL place cs parts = some r → ∃ r', Instr.fill place' cs' parts' = some r' ∧ L2 (VC ρ) r r'.toList
  | [], _, cs, cs', r, .nil, hc, h => by simp only [fillL, Option.some.injEq] at h; subst h; exact ⟨cs', rfl, hc⟩
  | (i, v) :: parts, (i', v') :: parts', cs, cs', r, .cons hv ht, hc, h => by
    obtain ⟨rfl, hv⟩ := hv
    simp only [fillL] at h
    split at h
    · cases h
    · rename_i off size hpl
      split at h
      · cases h
      · rename_i hcond
        have hs1 : v.cells.size = size := Decidable.byContradiction fun hh => hcond (.inl hh)
        have hs2 : ¬ off + v.cells.size > cs.length := fun hh => hcond (.inr (.inl hh))
        have hs3 : notTuple v = true := by
          cases hnt : notTuple v with
          | true => rfl
          | false => exact absurd (.inr (.inr hnt)) hcond
        have hvs := vt_cells_size hv hs3
        have hlen : cs'.size = cs.length := by simpa using hc.length.symm
        have hnew : L2 (VC ρ) (splice cs off v.cells.toList) (v'.cells.zipIdx.foldl (fun (cs : Array Value) (p : Value × Nat) => cs.setIfInBounds (off + p.2) p.1) cs').toList := by
          have e : (v'.cells.zipIdx.foldl (fun (cs : Array Value) (p : Value × Nat) => cs.setIfInBounds (off + p.2) p.1) cs').toList = splice cs'.toList off v'.cells.toList := by
            rw [← Array.foldl_toList, Array.toList_zipIdx]
            exact fill_toList off v'.cells.toList 0 cs'
          rw [e]
          exact L2.splice off hc (hv.to_R hs3).cells
        obtain ⟨r', h1, h2⟩ := fill_sim place place' hp parts parts' _ _ r ht hnew h
        refine ⟨r', ?_, h2⟩
        have hcond' : ¬ (v'.cells.size ≠ size || decide (off + v'.cells.size > cs'.size)) = true := by
          simp [hvs, hs1, hlen]; omega
        simp only [Instr.fill, hp i _ hpl]
        rw [if_neg (by simpa using hcond')]
        exact h1

theorem evParts_sound (hH : HR P B ρ H w) (hF : FR ρ tm a) : ∀ (parts : List (Nat × Operand)) (l : List (Nat × Value)), evParts P tm parts = some l → L2 (PR ρ) l (parts.map fun (i, x) => (i, a.eval x))
  | [], l, h => by simp only [evParts, Option.some.injEq] at h; subst h; exact .nil
  | (i, x) :: parts, l, h => by
    simp only [evParts] at h
    split at h
    · rename_i v r hv hr
      cases h
      exact .cons ⟨rfl, ev_sound hH hF hv⟩ (evParts_sound hH hF parts r hr)
    · cases h

theorem run_zero {t : TypeId} {i : TypeInfo} {z : Value} (hi : P.info? t = some i) (hz : i.zero = some z) (w1 : World) : (zeroValue t).run P w1 = .ok z w1 := by
  simp [zeroValue, typeInfo, hi, hz]

theorem run_places : ∀ (fs : List Field), fs.all (fun f => (sizeB P f.type).isSome) = true → ∀ w1 : World, (fs.mapM (m := Sem) fun f => do pure (f.offset, ← sizeOf f.type)).run P w1 = .ok (fs.map fun f => (f.offset, (sizeB P f.type).getD 0)) w1
  | [], _, _ => by simp
  | f :: fs, h, w1 => by
    simp only [List.all_cons, Bool.and_eq_true] at h
    obtain ⟨n, hn⟩ := Option.isSome_iff_exists.1 h.1
    have ih := run_places fs h.2 w1
    simp only [List.mapM_cons, Sem.run_bind, Sem.run_pure, Result.andThen_ok, run_sz hn, ih, List.map_cons, hn, Option.getD_some]

theorem q_build (hH : HR P B ρ H w) (hF : FR ρ tm a) {t : TypeId} {parts : Array (Nat × Operand)} {l : List (Nat × Value)} {v : Value} (hl : evParts P tm parts.toList = some l) (h : abuild P t l = some v) :
    QY P ρ w v (Instr.build t (parts.map fun (i, x) => (i, a.eval x))) := by
  have hp := evParts_sound hH hF _ _ hl
  unfold abuild at h
  split at h
  · rename_i info hi
    split at h
    · rename_i z hz
      split at h
      · rename_i hsc
        have hz2 : L2 (VC ρ) z.cells.toList z.cells.toList := L2.refl_of fun x hx => .same (List.all_eq_true.1 hsc x hx)
        split at h
        · rename_i fs hu
          split at h
          · rename_i hall
            cases hf : fillL (placeOf P fs) z.cells.toList l with
            | none => rw [hf] at h; cases h
            | some r =>
              rw [hf] at h; cases h
              obtain ⟨r', h1, h2⟩ := fill_sim (placeOf P fs) (fun i => ((fs.map fun f => (f.offset, (sizeB P f.type).getD 0)) : Array (Nat × Nat))[i]?) (fun i p hpl => by
                unfold placeOf at hpl
                split at hpl
                · rename_i f hf'
                  split at hpl <;> cases hpl
                  rename_i n hn
                  simp [hf', hn]
                · cases hpl) _ _ _ _ _ hp hz2 hf
              refine ⟨.agg r', .one (.agg (by simpa using h2)), fun w1 _ => ?_⟩
              have hpl : (fs.mapM (m := Sem) fun f => do pure (f.offset, ← sizeOf f.type)).run P w1 = .ok (fs.map fun f => (f.offset, (sizeB P f.type).getD 0)) w1 := by
                rw [Array.mapM_eq_mapM_toList, Sem.run_map, run_places fs.toList hall w1, Result.andThen_ok, ← Array.toList_map]
              unfold Instr.build
              rw [Sem.run_bind, run_zero hi hz, Result.andThen_ok, Sem.run_bind, run_underlying hu, Result.andThen_ok]
              simp only [Sem.run_bind, hpl, Result.andThen_ok]
              rw [Array.toList_map, h1]; rfl
          · cases h
        · rename_i n elem hu
          split at h
          · rename_i s hs
            cases hf : fillL (fun i => some (i * s, s)) z.cells.toList l with
            | none => rw [hf] at h; cases h
            | some r =>
              rw [hf] at h; cases h
              obtain ⟨r', h1, h2⟩ := fill_sim (fun i => some (i * s, s)) (fun i => some (i * s, s)) (fun _ _ h => h) _ _ _ _ _ hp hz2 hf
              refine ⟨.agg r', .one (.agg (by simpa using h2)), fun w1 _ => ?_⟩
              unfold Instr.build
              rw [Sem.run_bind, run_zero hi hz, Result.andThen_ok, Sem.run_bind, run_underlying hu, Result.andThen_ok]
              simp only [Sem.run_bind, run_sz hs, Result.andThen_ok]
              rw [Array.toList_map, h1]; rfl
          · cases h
        · cases h
      · cases h
    · cases h
  · cases h

abbrev MR (ρ : Ren) (kv : Value × Value) (me : MapEntry) : Prop := plain kv.1 = true ∧ me.key = kv.1 ∧ VR ρ kv.2 me.val

theorem findA_sim (kd : TypeDesc) (k : Value) : ∀ (es : List (Value × Value)) (ents : List MapEntry) (i : Nat), L2 (MR ρ) es ents →
    (findA kd k es i = some none → Instr.findNow kd k ents i = some none) ∧
    (∀ j v, findA kd k es i = some (some (j, v)) → ∃ v', Instr.findNow kd k ents i = some (some (j, v')) ∧ VR ρ v v')
  | [], _, _, .nil => ⟨fun _ => rfl, fun j v h => by simp [findA] at h⟩
  | (k0, v0) :: es, me :: ents, i, .cons ⟨_, hk, hv⟩ ht => by
    have ih := findA_sim kd k es ents (i + 1) ht
    simp only [findA, Instr.findNow, hk]
    cases hs : Instr.sameNow kd k k0 with
    | none => exact ⟨fun h => by simp at h, fun j v h => by simp at h⟩
    | some b => cases b with
      | true => exact ⟨fun h => by simp at h, fun j v h => by simp at h; obtain ⟨rfl, rfl⟩ := h; exact ⟨_, rfl, hv⟩⟩
      | false => exact ih

theorem amap_sound (hH : HR P B ρ H w) {x x' : Value} {es : List (Value × Value)} (hx : VT ρ x x') (h : amap H x = some es) :
    (x' = .map none ∧ es = []) ∨ ∃ r e, x = .map (some r) ∧ x' = .map (some e.blk) ∧ H.get r = some (.map es) ∧ ρ r = some e := by
  unfold amap at h
  split at h
  · cases h; exact .inl ⟨hx.plain rfl, rfl⟩
  · split at h <;> cases h
    rename_i r es' hg
    obtain ⟨e, hρ, rfl⟩ := vt_map hx
    exact .inr ⟨r, e, rfl, rfl, hg, hρ⟩
  · cases h

theorem run_lookup {t kt et : TypeId} {x' k r : Value} {ok : Bool} {ents : Array MapEntry} {u : Unit} {f : Option (Nat × Value)} {w1 : World} (hu : P.underlying t = some (.map kt et))
    (hx : (x' = .map none ∧ ents = #[]) ∨ ∃ r clock, x' = .map (some r) ∧ w1.heap[r]? = some (.map ents clock)) (hck : (Instr.checkKey ents.isEmpty 10000 kt k).run P w1 = .ok u w1)
    (hf : (Instr.findKey kt k ents.toList).run P w1 = .ok f w1)
    (hr : (∃ j v, f = some (j, v) ∧ r = (if ok then .tuple #[v, .bool true] else v)) ∨ (f = none ∧ ∃ z, (zeroValue et).run P w1 = .ok z w1 ∧ r = (if ok then .tuple #[z, .bool false] else z))) :
    (Instr.lookup t x' k ok).run P w1 = .ok r w1 := by
  unfold Instr.lookup
  rcases hx with ⟨rfl, rfl⟩ | ⟨q, clock, rfl, hh⟩ <;> rcases hr with ⟨j, v, rfl, rfl⟩ | ⟨rfl, z, hz, rfl⟩
  · simp at hck hf; simp [run_underlying hu, hck, hf]
  · simp at hck hf; simp [run_underlying hu, hck, hf, hz]
  · simp [run_underlying hu, getObj, Sem.run, hh, hck, hf]
  · simp [run_underlying hu, getObj, Sem.run, hh, hck, hf, hz]

theorem q_lookup (hH : HR P B ρ H w) {t : TypeId} {x k x' k' v : Value} {ok : Bool} (hx : VT ρ x x') (hk : VT ρ k k') (h : alookup P H t x k ok = some v) : QY P ρ w v (Instr.lookup t x' k' ok) := by
  unfold alookup at h
  split at h
  · rename_i kt et es hu hm
    split at h
    · rename_i kd z hkd hz
      split at h
      · rename_i hc
        obtain ⟨c1, c2, c3, c4⟩ := hc
        obtain ⟨u, hu4⟩ := Option.isSome_iff_exists.1 c4
        rw [hk.plain c1]
        have hz' : ∃ i, P.info? et = some i ∧ i.zero = some z := by
          cases hi : P.info? et with
          | none => rw [hi] at hz; cases hz
          | some i => rw [hi] at hz; exact ⟨i, rfl, hz⟩
        obtain ⟨info, hi, hzz⟩ := hz'
        have hzr : VR ρ z z := (VT.of_plain c2).to_R c3
        -- the entries as they are read
        have key : ∀ (ents : Array MapEntry), L2 (MR ρ) es ents.toList → (∀ w1, Below w.heap.size w w1 → (x' = .map none ∧ ents = #[]) ∨ ∃ r clock, x' = .map (some r) ∧ w1.heap[r]? = some (.map ents clock)) → QY P ρ w v (Instr.lookup t x' k ok) := by
          intro ents hl hrun
          have hemp : ents.isEmpty = es.isEmpty := by
            have h1 : es.length = ents.size := by simpa using hl.length
            cases es with
            | nil => have : ents = #[] := Array.size_eq_zero_iff.1 (by simpa using h1.symm); rw [this]; rfl
            | cons e es => rw [Array.isEmpty_eq_false_iff.2 (fun h0 => by rw [h0] at h1; simp at h1)]; rfl
          have hck : ∀ w1, (Instr.checkKey ents.isEmpty 10000 kt k).run P w1 = .ok u w1 := fun w1 => by rw [hemp]; exact pureRun_run P _ _ hu4 w1
          have hs := findA_sim (ρ := ρ) kd k es ents.toList 0 hl
          split at h
          · rename_i j v1 hfa
            cases h
            obtain ⟨v', hf, hv⟩ := hs.2 _ _ hfa
            refine ⟨if ok then .tuple #[v', .bool true] else v', ?_, fun w1 hb => ?_⟩
            · cases ok
              · exact .one hv
              · exact .tup (.cons hv (.cons (.cell (.same rfl)) .nil))
            · exact run_lookup hu (hrun w1 hb) (hck w1) (by simp [Instr.findKey, run_underlying hkd, hf]) (.inl ⟨j, v', rfl, rfl⟩)
          · rename_i hfa
            cases h
            have hf := hs.1 hfa
            refine ⟨if ok then .tuple #[z, .bool false] else z, ?_, fun w1 hb => ?_⟩
            · cases ok
              · exact .one hzr
              · exact .tup (.cons hzr (.cons (.cell (.same rfl)) .nil))
            · exact run_lookup hu (hrun w1 hb) (hck w1) (by simp [Instr.findKey, run_underlying hkd, hf]) (.inr ⟨rfl, z, run_zero hi hzz w1, rfl⟩)
          · cases h
        rcases amap_sound hH hx hm with ⟨rfl, rfl⟩ | ⟨r, e, rfl, rfl, hg, hρ⟩
        · exact key #[] .nil fun w1 _ => .inl ⟨rfl, rfl⟩
        · obtain ⟨_, ents, clock, hh, hl⟩ := hH.obj _ _ _ hg hρ
          exact key ents hl fun w1 hb => .inr ⟨e.blk, clock, rfl, by rw [hb.block _ (hH.top _ _ hρ)]; exact hh⟩
      · cases h
    · cases h
  · cases h

theorem bytes_sim : ∀ (cs ys : List Value) (acc s : ByteArray), L2 (VC ρ) cs ys → bytesOfCells cs acc = some s → ∃ ns : List Int, ys = ns.map (Value.int .u8) ∧ ns.foldl (fun r n => r.push (UInt8.ofNat n.toNat)) acc = s
  | [], _, acc, s, .nil, h => by simp only [bytesOfCells, Option.some.injEq] at h; exact ⟨[], rfl, h⟩
  | v :: cs, y :: ys, acc, s, .cons hv ht, h => by
    cases v with
    | int k n => cases k with
      | u8 =>
        simp only [bytesOfCells] at h
        obtain ⟨ns, h1, h2⟩ := bytes_sim cs ys _ s ht h
        exact ⟨n :: ns, by rw [hv.scalar rfl, h1]; rfl, by simpa using h2⟩
      | _ => simp [bytesOfCells] at h
    | _ => simp [bytesOfCells] at h

theorem q_convert (hH : HR P B ρ H w) {src dst : TypeId} {x v x' : Value} (hx : VT ρ x x') (h : aconvert P H src dst x = some v) : QY P ρ w v (convert src dst x') := by
  have hU8 : ∀ e, isU8 P e = true → P.underlying e = some (.int .u8) := fun e he => by
    unfold isU8 at he
    split at he
    · assumption
    · cases he
  unfold aconvert at h
  split at h
  · split at h
    · rename_i e hu1 hu2
      split at h <;> cases h
      rename_i he
      rw [vt_nil hx]
      exact ⟨_, VT.of_plain rfl, fun w1 _ => by simp [convert, run_underlying hu1, run_underlying hu2, run_underlying (hU8 _ he), Conv.bytesToString]⟩
    · cases h
  · rename_i b i n c
    split at h
    · rename_i e hu1 hu2
      split at h
      · rename_i he
        split at h
        · rename_i cs elem k hg
          split at h
          · rename_i hle
            cases hb0 : bytesOfCells ((cs.drop i).take n) .empty with
            | none => rw [hb0] at h; cases h
            | some s =>
              rw [hb0] at h; cases h
              obtain ⟨en, c', hρ, hn, h0, rfl⟩ := vt_sl hx
              obtain ⟨ys, h2, hc⟩ := hH.cellsAt hg hρ
              obtain ⟨ns, hns, hfold⟩ := bytes_sim _ _ _ _ ((h2.drop i).take n) hb0
              have hlen : ns.length = n := by
                have := congrArg List.length hns
                have h3 := h2.length
                simp at this; omega
              refine ⟨_, VT.of_plain (v := .string s) rfl, fun w1 hb => ?_⟩
              have hrd : (loadCells ⟨en.blk, en.base + i, none⟩ n).run P w1 = .ok (ns.map (Value.int .u8)).toArray w1 := by
                have := run_loadCells_list (P := P) (w := w1) ⟨en.blk, en.base + i, none⟩ (ns.map (Value.int .u8)) (fun j u hu => by
                  rw [addr_add, Nat.add_assoc]
                  refine hc w1 hb _ _ ?_
                  rw [← hns, List.getElem?_take] at hu
                  split at hu
                  · simpa [List.getElem?_drop] using hu
                  · cases hu)
                simpa [hlen] using this
              rw [run_convert_bytes_string w1 src dst e _ n c' hu1 (hU8 _ he) hu2, run_bytesToString w1 _ n c' ns hrd, hfold]
          · cases h
        · cases h
      · cases h
    · cases h
  · cases h

theorem evs_sound (hH : HR P B ρ H w) (hF : FR ρ tm a) : ∀ (xs : List Operand) (l : List Value), evs P tm xs = some l → L2 (VT ρ) l (xs.map a.eval)
  | [], l, h => by simp only [evs, Option.some.injEq] at h; subst h; exact .nil
  | x :: xs, l, h => by
    simp only [evs] at h
    split at h
    · rename_i v r hv hr
      cases h
      exact .cons (ev_sound hH hF hv) (evs_sound hH hF xs r hr)
    · cases h

theorem vt_cell {v v' : Value} (h : VT ρ v v') (hc : cellLike v = true) : VC ρ v v' := by
  cases h with
  | one h => cases h with
    | cell h => exact h
    | agg h => simp [cellLike] at hc
  | tup h => simp [cellLike] at hc

theorem q_func (hH : HR P B ρ H w) (hF : FR ρ tm a) {f : FuncId} {first cap : Array Operand} {l : List Value} (h0 : first.size = 0) (hl : evs P tm cap.toList = some l) (hc : l.all cellLike = true) :
    QY P ρ w (.func (.func f) #[] l.toArray) (Instr.makeFunc (.func f) (first.map a.eval) (cap.map a.eval)) := by
  have h1 := evs_sound hH hF _ _ hl
  have h2 : L2 (VC ρ) l (cap.toList.map a.eval) := L2.of_get h1.length fun i x y hx hy => vt_cell (h1.both hx hy) (List.all_eq_true.1 hc x (List.mem_of_getElem? hx))
  have hf : first = #[] := Array.size_eq_zero_iff.1 h0
  subst hf
  refine ⟨.func (.func f) #[] (cap.map a.eval), .one (.cell (.fn (by simpa using h2.length) fun i x y hx hy => h2.both (by simpa using hx) (by simpa using hy))), fun w1 _ => by simp [Instr.makeFunc]⟩

end
end Go.AI

/- The abstract machine and the model: operations that make memory, or write. -/
namespace Go.AI
open Go.RowKit
section
variable {P : Program} {B : Nat} {ρ : Ren} {H : Heap} {w : World} {tm : Tm} {a : Act}

/-- What an operation comes to: its value, what memory is then, and what may have been written. -/
def YD (P : Program) (B : Nat) (ρ : Ren) (w : World) (v : Value) (H' : Heap) (lo : Nat) (r : World → Value → World → Prop) : Prop :=
  ∃ ρ' v' w', r w v' w' ∧ VT ρ' v v' ∧ HR P B ρ' H' w' ∧ Ext B ρ ρ' lo w w'

/-- New cells, in a new block. -/
theorem HR.newCells (hH : HR P B ρ H w) {w1 : World} (hw1 : Below w.heap.size w w1) (hsz : w1.heap.size = w.heap.size) (cs : List Value) (cur : Array Value) (elem k cap lo : Nat) (ys rest : List Value) (hcur : cur.toList = ys ++ rest)
    (h2 : L2 (VC ρ) cs ys) (hk : k = 1 → ∃ s, 0 < s ∧ sizeB P elem = some s ∧ cur.size = cap * s ∧ cap ≤ maxLen) :
    HR P B (Ren.add ρ H.n ⟨w.heap.size, 0, cap⟩) (anew H cs elem (k + 1)) (w1.alloc (.cells cur elem)) ∧ Ext B ρ (Ren.add ρ H.n ⟨w.heap.size, 0, cap⟩) lo w (w1.alloc (.cells cur elem)) := by
  have hb : Below w.heap.size w (w1.alloc (.cells cur elem)) := hw1.alloc (by omega) _
  refine hH.alloc hb ⟨w.heap.size, 0, cap⟩ (.cells cs elem (k + 1)) lo (Nat.le_refl _) (by simp [hsz]) ?_
  refine ⟨hH.old, rfl, cur, ?_, ⟨ys, rest, hcur, h2.mono fun _ _ => VC.mono (hH.le_add _)⟩, hk⟩
  show (w1.alloc (.cells cur elem)).heap[w.heap.size]? = _
  rw [← hsz]; exact heap_alloc_new w1 _

theorem y_alloc (hH : HR P B ρ H w) {t : TypeId} {i : TypeInfo} {z : Value} (hi : P.info? t = some i) (hz : i.zero = some z) (hs : z.cells.toList.all scalar = true) :
    YD P B ρ w (.pointer (some ⟨H.n, 0, none⟩)) (anew H z.cells.toList t 1) H.n (fun w v' w' => (Instr.alloc t true (.tuple #[])).run P w = .ok v' w') := by
  have h2 : L2 (VC ρ) z.cells.toList z.cells.toList := L2.refl_of fun x hx => .same (List.all_eq_true.1 hs x hx)
  obtain ⟨h3, h4⟩ := hH.newCells (Below.refl _ w) rfl z.cells.toList z.cells t 0 0 H.n z.cells.toList [] (by simp) h2 (fun h => by cases h)
  refine ⟨_, _, _, ?_, .one (.cell (.ptr (i := 0) (Ren.add_eq ρ H.n ⟨w.heap.size, 0, 0⟩))), h3, h4⟩
  simp [Instr.alloc, run_zero hi hz, newVar, newRow]

theorem y_box (hH : HR P B ρ H w) {t : TypeId} {v x' : Value} (hx : VT ρ v x') (hn : notTuple v = true) :
    YD P B ρ w (.pointer (some ⟨H.n, 0, none⟩)) (anew H v.cells.toList t 1) H.n (fun w v' w' => (Instr.box t x').run P w = .ok v' w') := by
  obtain ⟨h3, h4⟩ := hH.newCells (Below.refl _ w) rfl v.cells.toList x'.cells t 0 0 H.n x'.cells.toList [] (by simp) (hx.to_R hn).cells (fun h => by cases h)
  refine ⟨_, _, _, ?_, .one (.cell (.ptr (i := 0) (Ren.add_eq ρ H.n ⟨w.heap.size, 0, 0⟩))), h3, h4⟩
  simp [Instr.box, newVar, newRow]

theorem y_makeMap (hH : HR P B ρ H w) (t : TypeId) :
    YD P B ρ w (.map (some H.n)) (H.new (.map [])) H.n (fun w v' w' => (Instr.makeMap t none).run P w = .ok v' w') := by
  obtain ⟨h3, h4⟩ := hH.alloc (w' := w.alloc (.map #[] 0)) ((Below.refl _ w).alloc (Nat.le_refl _) _) ⟨w.heap.size, 0, 0⟩ (.map []) H.n (Nat.le_refl _) (by simp)
    ⟨hH.old, #[], 0, heap_alloc_new w _, .nil⟩
  refine ⟨_, _, _, ?_, .one (.cell (.map (Ren.add_eq ρ H.n ⟨w.heap.size, 0, 0⟩))), h3, h4⟩
  simp [Instr.makeMap]

theorem zeros_prefix (z : Array Value) (m n : Nat) (h : m ≤ n) : ∃ rest, (madeCells z n).toList = zeros z m ++ rest := by
  refine ⟨(madeCells z n).toList.drop m, ?_⟩
  have : zeros z m = (madeCells z n).toList.take m := by
    rw [madeCells, Array.toList_map, Array.toList_range, ← List.map_take, List.take_range, Nat.min_eq_left h]; rfl
  rw [this, List.take_append_drop]

theorem get!_mem (z : Array Value) (i : Nat) (h : 0 < z.size) : z[i % z.size]! ∈ z.toList := by
  have : i % z.size < z.size := Nat.mod_lt _ h
  rw [getElem!_pos z _ this]
  simp

theorem zeros_ok (z : Array Value) (n : Nat) (hs : z.toList.all scalar = true) (h : 0 < z.size) : L2 (VC ρ) (zeros z n) (zeros z n) :=
  L2.refl_of fun x hx => by
    simp only [zeros, List.mem_map] at hx
    obtain ⟨i, _, rfl⟩ := hx
    exact .same (List.all_eq_true.1 hs _ (get!_mem z i h))

theorem y_makeSlice (hH : HR P B ρ H w) {t : TypeId} {l c v l' c' : Value} {H' : Heap} {lo : Nat} (hl : VT ρ l l') (hc : VT ρ c c') (h : amakeSlice P H t l c = some (v, H', lo)) :
    YD P B ρ w v H' lo (fun w v' w' => (Instr.makeSlice t l' c').run P w = .ok v' w') := by
  unfold amakeSlice at h
  split at h
  · rename_i elem l c hu
    split at h
    · rename_i info hi
      split at h
      · rename_i z hz
        split at h <;> cases h
        rename_i hc0
        obtain ⟨h0, h1, h2, h3, h4, h5, h6⟩ := hc0
        rw [vt_int hl, vt_int hc]
        have hzs : 0 < z.cells.size := by omega
        obtain ⟨rest, hr⟩ := zeros_prefix z.cells (l.toNat * info.size) (c.toNat * info.size) (Nat.mul_le_mul_right _ (by omega))
        obtain ⟨h7, h8⟩ := hH.newCells (Below.refl _ w) rfl (zeros z.cells (l.toNat * info.size)) (madeCells z.cells (c.toNat * info.size)) elem 1 c.toNat H.n _ rest hr (zeros_ok _ _ h6 hzs)
          (fun _ => ⟨info.size, h4, by simp [sizeB, hi], size_madeCells _ _, by simp [maxLen]; omega⟩)
        refine ⟨_, .slice (some ⟨w.heap.size, 0, none⟩) l.toNat c.toNat, _, ?_, .one (.cell (.sl (i := 0) (Ren.add_eq ρ H.n ⟨w.heap.size, 0, c.toNat⟩) (by omega) (fun _ => ⟨rfl, rfl, rfl⟩))), h7, h8⟩
        exact run_make w t elem info z hu hi hz .i64 .i64 l c h0 h1 h3 h2
      · cases h
    · cases h
  · cases h

theorem fillL_length (place : Nat → Option (Nat × Nat)) : ∀ (parts : List (Nat × Value)) (cs r : List Value), fillL place cs parts = some r → r.length = cs.length
  | [], cs, r, h => by simp only [fillL, Option.some.injEq] at h; rw [h]
  | (i, v) :: parts, cs, r, h => by
    simp only [fillL] at h
    split at h
    · cases h
    · split at h
      · cases h
      · rw [fillL_length place parts _ r h, splice_length]

theorem y_buildSlice (hH : HR P B ρ H w) (hF : FR ρ tm a) {t : TypeId} {len : Nat} {parts : Array (Nat × Operand)} {l : List (Nat × Value)} {v : Value} {H' : Heap} {lo : Nat} (hl : evParts P tm parts.toList = some l) (h : abuildSlice P H t len l = some (v, H', lo)) :
    YD P B ρ w v H' lo (fun w v' w' => (Instr.buildSlice t len (parts.map fun (i, x) => (i, a.eval x))).run P w = .ok v' w') := by
  have hp := evParts_sound hH hF _ _ hl
  unfold abuildSlice at h
  split at h
  · rename_i elem hu
    split at h
    · rename_i info hi
      split at h
      · rename_i z hz
        split at h
        · rename_i hc
          obtain ⟨h0, h1, h2, h3⟩ := hc
          split at h
          · rename_i cs hf
            cases h
            have hzs : 0 < z.cells.size := by omega
            have hz2 : L2 (VC ρ) (zeros z.cells (len * info.size)) (madeCells z.cells (len * info.size)).toList := by
              obtain ⟨rest, hr⟩ := zeros_prefix z.cells (len * info.size) (len * info.size) (Nat.le_refl _)
              have := zeros_ok (ρ := ρ) z.cells (len * info.size) h2 hzs
              have h5 : (madeCells z.cells (len * info.size)).toList = zeros z.cells (len * info.size) := by simp [madeCells, zeros]
              rw [h5]; exact this
            obtain ⟨r', h5, h6⟩ := fill_sim (fun i => some (i * info.size, info.size)) (fun i => some (i * info.size, info.size)) (fun _ _ h => h) _ _ _ _ _ hp hz2 hf
            have hsz : r'.size = len * info.size := by
              have e1 := h6.length
              have e2 := fillL_length _ _ _ _ hf
              simp [zeros] at e1 e2; omega
            obtain ⟨h7, h8⟩ := hH.newCells (Below.refl _ w) rfl cs r' elem 1 len H.n r'.toList [] (by simp) h6
              (fun _ => ⟨info.size, h0, by simp [sizeB, hi], hsz, by
                have : len ≤ len * info.size := Nat.le_mul_of_pos_right _ h0
                simp [maxLen]; omega⟩)
            refine ⟨_, .slice (some ⟨w.heap.size, 0, none⟩) len len, _, ?_, .one (.cell (.sl (i := 0) (Ren.add_eq ρ H.n ⟨w.heap.size, 0, len⟩) (Nat.le_refl _) (fun _ => ⟨rfl, rfl, rfl⟩))), h7, h8⟩
            have hsz' : sizeB P elem = some info.size := by simp [sizeB, hi]
            show (Instr.buildSlice t len _).run P w = _
            unfold Instr.buildSlice
            rw [Sem.run_bind, run_underlying hu, Result.andThen_ok]
            simp only [Sem.run_bind, run_sz hsz', Result.andThen_ok]
            have hn : ¬ len * info.size > 2 ^ 24 := by omega
            rw [if_neg hn]
            by_cases h9 : len * info.size = 0
            · have hmk : (Array.range (len * info.size)).map (fun x => (#[] : Array Value)[x % (#[] : Array Value).size]!) = madeCells z.cells (len * info.size) := by simp [madeCells, h9]
              rw [if_pos h9, Sem.run_bind, Sem.run_pure, Result.andThen_ok, hmk, Array.toList_map, h5]
              simp [newRow]
            · rw [if_neg h9, Sem.run_bind, run_zero hi hz, Result.andThen_ok, Sem.run_bind, Sem.run_pure, Result.andThen_ok]
              have hmk : (Array.range (len * info.size)).map (fun x => z.cells[x % z.cells.size]!) = madeCells z.cells (len * info.size) := rfl
              rw [hmk, Array.toList_map, h5]
              simp [newRow]
          · cases h
        · cases h
      · cases h
    · cases h
  · cases h

end
end Go.AI

/- The abstract machine and the model: stores, append, a map's update. -/
namespace Go.AI
open Go.RowKit
section
variable {P : Program} {B : Nat} {ρ : Ren} {H : Heap} {w : World} {tm : Tm} {a : Act}

theorem splice_eq : ∀ (vs cs : List Value) (i : Nat), i + vs.length ≤ cs.length → splice cs i vs = cs.take i ++ vs ++ cs.drop (i + vs.length)
  | [], cs, i, _ => by simp [splice]
  | v :: vs, cs, i, h => by
    have hi : i < cs.length := by simp at h; omega
    rw [splice, splice_eq vs (cs.set i v) (i + 1) (by simp at h ⊢; omega)]
    have e1 : (cs.set i v).take (i + 1) = cs.take i ++ [v] := by
      rw [List.take_add_one, List.getElem?_set_self (by simpa using hi)]
      simp [List.take_set_of_le]
    have e2 : (cs.set i v).drop (i + 1 + vs.length) = cs.drop (i + (v :: vs).length) := by
      rw [List.drop_set_of_lt (by omega)]
      congr 1; simp; omega
    rw [e1, e2]; simp

theorem splice_append : ∀ (vs ys rest : List Value) (i : Nat), i + vs.length ≤ ys.length → splice (ys ++ rest) i vs = splice ys i vs ++ rest
  | [], _, _, _, _ => rfl
  | v :: vs, ys, rest, i, h => by
    have hi : i < ys.length := by simp at h; omega
    rw [splice, splice, List.set_append_left _ _ hi, splice_append vs (ys.set i v) rest (i + 1) (by simp at h ⊢; omega)]

theorem run_storeVar {t : TypeId} {v : Value} {g o : Nat} {elem : TypeId} {cur : Array Value} (hsz : sizeB P t = some v.cells.size) (hg : w.heap[g]? = some (.cells cur elem (0, 0))) (hle : o + v.cells.size ≤ cur.size)
    (h1 : ∀ u ∈ v.cells.toList, u.oneCell' = true) : (storeVar t ⟨g, o, none⟩ v).run P w = .ok () (w.setRow g (splice cur.toList o v.cells.toList).toArray) := by
  have := run_storeCells_at P g o elem v.cells.toList 0 cur w hg (by simpa using hle) h1
  rw [splice_eq _ _ _ (by simpa using hle)]
  simp only [Nat.add_zero] at this
  simp [storeVar, run_sz hsz, this]

theorem setRow_size (w : World) (g : Nat) (cs : Array Value) : (w.setRow g cs).heap.size = w.heap.size := by simp [World.setRow]

theorem y_store (hH : HR P B ρ H w) {t : TypeId} {x v x' v' : Value} {H' : Heap} {lo : Nat} (hx : VT ρ x x') (hv : VT ρ v v') (h : astore P t H v x = some (H', lo)) :
    YD P B ρ w undef H' lo (fun w _ w' => (Instr.storeAt t x' v').run P w = .ok () w') := by
  unfold astore at h
  split at h
  · rename_i b i
    split at h
    · rename_i cs elem k hg
      split at h <;> cases h
      rename_i hc
      obtain ⟨c1, c2, c3, c4⟩ := hc
      obtain ⟨e, hρ, rfl⟩ := vt_ptr hx
      obtain ⟨hB, hb0, cur, hh, ⟨ys, rest, hcur, h2⟩, hk⟩ := hH.obj _ _ _ hg hρ
      have hvs := vt_cells_size hv c3
      have hcl := (hv.to_R c3).cells
      have hyl := h2.length
      have hcs : cur.size = ys.length + rest.length := by rw [← Array.length_toList, hcur]; simp
      have hrun := run_storeVar (P := P) (w := w) (t := t) (v := v') (g := e.blk) (o := i) (cur := cur) (by rw [hvs]; exact c1) hh (by omega) (fun u hu => by
        obtain ⟨j, hj⟩ := List.mem_iff_getElem?.1 hu
        have hjl : j < v.cells.toList.length := by
          have := (List.getElem?_eq_some_iff.1 hj).1
          simp only [Array.length_toList] at this ⊢; omega
        exact (hcl.both (List.getElem?_eq_getElem hjl) hj).oneC.2)
      have e1 : splice cur.toList i v'.cells.toList = splice ys i v'.cells.toList ++ rest := by
        rw [hcur]; exact splice_append _ _ _ _ (by simp only [Array.length_toList]; omega)
      obtain ⟨h3, h4⟩ := hH.write (w' := w.setRow e.blk (splice cur.toList i v'.cells.toList).toArray) (o' := .cells (splice cs i v.cells.toList) elem (k + 1)) hg hρ (by simp [writable]) hB rfl rfl rfl (setRow_size _ _ _)
        (fun j hj => setRow_other w e.blk j _ hj)
        ⟨hB, hb0, (splice cur.toList i v'.cells.toList).toArray, setRow_heap w e.blk cur _ elem _ hh, ⟨splice ys i v'.cells.toList, rest, by simp [e1], L2.splice i h2 hcl⟩, fun hk1 => by
          obtain ⟨s, s1, s2, s3, s4⟩ := hk hk1
          exact ⟨s, s1, s2, by rw [List.size_toArray, splice_length, Array.length_toList]; exact s3, s4⟩⟩
      refine ⟨ρ, undef, _, ?_, VT.undef ρ, h3, h4⟩
      simp [Instr.storeAt, Instr.sureAddr, hb0, hrun]
    · cases h
  · cases h

/-- Nothing is appended. -/
theorem run_append_zero {t ty elem : TypeId} {info : TypeInfo} (hu : P.underlying t = some (.slice elem)) (hi : P.info? elem = some info) (base ad : Option Addr) (n cap c : Nat) (hn : n ≤ cap) (w : World) :
    (Builtin.append_ #[t, t] ty #[.slice base n cap, .slice ad 0 c]).run P w = .ok (.slice base n cap) w := by
  have hs : sizeB P elem = some info.size := by simp [sizeB, hi]
  cases base <;> cases ad <;> simp [Builtin.append_, run_underlying hu, run_sz hs, Builtin.lenOf, hn, Builtin.firstCells, loadCells, loadCellsFrom, storeCells]

/-- The cells of what is appended, as the model reads them. -/
theorem source_sound (hH : HR P B ρ H w) {s : Nat} {y y' : Value} {news : List Value} {m : Nat} (hy : VT ρ y y') (h : sourceOf H s y = some (news, m)) (hm : m ≠ 0) :
    ∃ ad c news', y' = .slice (some ad) m c ∧ L2 (VC ρ) news news' ∧ news.length = m * s ∧ ∀ (j : Nat) (u : Value), news'[j]? = some u → w.cell? (ad.add j) = some u := by
  unfold sourceOf at h
  split at h
  · cases h; exact absurd rfl hm
  · cases h; exact absurd rfl hm
  · rename_i b i m' c
    split at h
    · rename_i cs elem k hg
      split at h <;> cases h
      rename_i hle
      obtain ⟨e, c', hρ, hn, h0, rfl⟩ := vt_sl hy
      obtain ⟨ys, h2, hc⟩ := hH.cellsAt hg hρ
      have hyl := h2.length
      refine ⟨_, _, (ys.drop i).take (m * s), rfl, (h2.drop i).take _, by simp; omega, fun j u hu => ?_⟩
      rw [addr_add, Nat.add_assoc]
      refine hc w (Below.refl _ _) _ _ ?_
      rw [List.getElem?_take] at hu
      split at hu
      · simpa [List.getElem?_drop] using hu
      · cases hu
    · cases h
  · cases h

theorem source_zero {s : Nat} {y y' : Value} {news : List Value} (hy : VT ρ y y') (h : sourceOf H s y = some (news, 0)) : ∃ ad c, y' = .slice ad 0 c := by
  unfold sourceOf at h
  split at h
  · rw [vt_nil hy]; exact ⟨_, _, rfl⟩
  · obtain ⟨a', c', rfl⟩ := vt_anon hy; exact ⟨_, _, rfl⟩
  · split at h
    · split at h <;> cases h
      obtain ⟨ad', c', rfl⟩ := vt_slice hy
      exact ⟨_, _, rfl⟩
    · cases h
  · cases h

theorem y_append (hH : HR P B ρ H w) {ts : Array TypeId} {ty : TypeId} {x y v x' y' : Value} {H' : Heap} {lo : Nat} (hx : VT ρ x x') (hy : VT ρ y y') (h : aappend P H ts x y = some (v, H', lo)) :
    YD P B ρ w v H' lo (fun w v' w' => (Builtin.append_ ts ty #[x', y']).run P w = .ok v' w') := by
  unfold aappend at h
  split at h
  · rename_i t u hts
    split at h
    · cases h
    · rename_i htu
      have htu' : t = u := Decidable.byContradiction htu
      subst htu'
      have hts' : ts = #[t, t] := by rw [← Array.toList_inj]; exact hts
      subst hts'
      split at h
      · rename_i elem hu
        split at h
        · rename_i info hi
          split at h
          · rename_i z hz
            split at h
            · cases h
            · rename_i hzc
              have hs0 : 0 < info.size := Nat.pos_of_ne_zero fun h0 => hzc (.inl h0)
              have hzs : z.cells.size = info.size := Decidable.byContradiction fun h0 => hzc (.inr h0)
              have hsz : sizeB P elem = some info.size := by simp [sizeB, hi]
              split at h
              · rename_i news m hsrc
                split at h
                · -- the slice is nil
                  rw [vt_nil hx]
                  split at h
                  · rename_i hm
                    cases h
                    subst hm
                    obtain ⟨ad, c, rfl⟩ := source_zero hy hsrc
                    exact ⟨ρ, _, w, run_append_zero hu hi none ad 0 0 c (Nat.le_refl _) w, VT.of_plain rfl, hH, Ext.refl _ _ _ _⟩
                  · rename_i hm
                    split at h <;> cases h
                    rename_i hb
                    obtain ⟨ad, c, news', rfl, h2, hl, hcell⟩ := source_sound hH hy hsrc hm
                    have hl' : news'.length = m * info.size := by rw [← h2.length]; exact hl
                    have hmx : (m : Int) ≤ 9223372036854775807 := by have := hb.1; simp [maxLen] at this; omega
                    have hr := run_append_nil (P := P) w t ty elem info z hu hi hz ad m c news' hl' hcell (by omega) hmx (by omega)
                    have hge : m ≤ grownCap w m 0 elem := grownCap_ge w m 0 elem
                    obtain ⟨h7, h8⟩ := hH.newCells (w1 := w.drew) (Below.refl _ w).drew rfl news (news'.toArray ++ Builtin.zeroCells z.cells (grownCap w m 0 elem - m)) elem 1 (grownCap w m 0 elem) H.n news' _ (by simp; rfl) h2
                      (fun _ => ⟨info.size, hs0, hsz, by
                        rw [Array.size_append, List.size_toArray, size_zeroCells, hzs, hl', ← Nat.add_mul]
                        congr 1; omega, grownCap_le_maxLen w m 0 elem hb.1⟩)
                    exact ⟨_, _, _, hr, .one (.cell (.sl (i := 0) (Ren.add_eq ρ H.n ⟨w.heap.size, 0, grownCap w m 0 elem⟩) hge (fun _ => ⟨rfl, rfl, rfl⟩))), h7, h8⟩
                · rename_i b i n c
                  obtain ⟨e, c', hρ, hn, h0, rfl⟩ := vt_sl hx
                  split at h
                  · rename_i hm
                    cases h
                    subst hm
                    obtain ⟨ad, c1, rfl⟩ := source_zero hy hsrc
                    exact ⟨ρ, _, w, run_append_zero hu hi _ ad n c' c1 hn w, .one (.cell (.sl hρ hn h0)), hH, Ext.refl _ _ _ _⟩
                  · rename_i hm
                    split at h
                    · cases h
                    · rename_i hci
                      have hc0 : c = 0 := Decidable.byContradiction fun h1 => hci (.inl h1)
                      have hi0 : i = 0 := Decidable.byContradiction fun h1 => hci (.inr h1)
                      subst hc0; subst hi0
                      obtain ⟨_, hbase, hcap⟩ := h0 rfl
                      split at h
                      · rename_i cs el hg
                        split at h <;> cases h
                        rename_i hb
                        obtain ⟨b1, b2, b3, b4⟩ := hb
                        subst b1
                        obtain ⟨hB, _, cur, hh, ⟨ys, rest, hcur, h2⟩, hk⟩ := hH.obj _ _ _ hg hρ
                        obtain ⟨s, s1, s2, s3, s4⟩ := hk rfl
                        have hss : s = info.size := by rw [hsz] at s2; cases s2; rfl
                        subst hss
                        obtain ⟨ad, c1, news', rfl, h3, hl, hcell⟩ := source_sound hH hy hsrc hm
                        have hl' : news'.length = m * info.size := by rw [← h3.length]; exact hl
                        have hyl := h2.length
                        have hcs : cur.size = ys.length + rest.length := by rw [← Array.length_toList, hcur]; simp
                        have hone : ∀ u ∈ news', u.oneCell' = true := fun u hu => by
                          obtain ⟨j, hj⟩ := List.mem_iff_getElem?.1 hu
                          have hjl : j < news.length := by have := (List.getElem?_eq_some_iff.1 hj).1; have := h3.length; omega
                          exact (h3.both (List.getElem?_eq_getElem hjl) hj).oneC.2
                        have htake : cur.toList.take (n * info.size) = ys := by rw [hcur, ← b2, hyl]; exact List.take_left
                        simp only [hbase, Nat.add_zero]
                        by_cases hroom : n + m ≤ c'
                        · have hfit : n * info.size + news'.length ≤ cur.size := by
                            rw [hl', s3, ← Nat.add_mul, ← hcap]; exact Nat.mul_le_mul_right _ hroom
                          have hr := run_append_room (P := P) w t ty el info hu hi e.blk n c' cur hh ad m c1 news' hl' hcell hone hroom hfit
                          obtain ⟨h7, h8⟩ := hH.grow (w' := w.setRow e.blk (cur.toList.take (n * info.size) ++ news' ++ cur.toList.drop (n * info.size + news'.length)).toArray) (o' := .cells (cs ++ news) el 2)
                            hg hρ (by simp [writable]) hB rfl rfl rfl (setRow_size _ _ _) (fun j hj => setRow_other w e.blk j _ hj)
                            ⟨hB, hbase, _, setRow_heap w e.blk cur _ el _ hh, ⟨ys ++ news', cur.toList.drop (n * info.size + news'.length), by rw [htake], (h2.append h3).mono fun _ _ => VC.mono (hH.le_add e)⟩, fun _ => ⟨info.size, s1, s2, by
                              simp only [List.size_toArray, List.length_append, List.length_take, List.length_drop, Array.length_toList]; omega, s4⟩⟩
                          refine ⟨_, _, _, hr, .one (.cell ?_), h7, h8⟩
                          have := VC.sl (ρ := Ren.add ρ H.n e) (b := H.n) (i := 0) (n := n + m) (c := 0) (c' := c') (Ren.add_eq ρ H.n e) hroom (fun _ => ⟨rfl, hbase, hcap⟩)
                          simpa [hbase] using this
                        · have hr := run_append_grow (P := P) w t ty el info z hu hi hz ⟨e.blk, 0, none⟩ n c' ys (by rw [← hyl, b2]) (fun j u hu' => by
                              rw [addr_add, Nat.zero_add]
                              have : cur[j]? = some u := by rw [← Array.getElem?_toList, hcur, List.getElem?_append_left (List.getElem?_eq_some_iff.1 hu').1]; exact hu'
                              simp [World.cell?, hh, this]) ad m c1 news' hl' hcell (by omega) (by simp [maxLen] at b3; omega) (growslice_fits (by omega) b4)
                          have hge : n + m ≤ grownCap w (n + m) c' el := grownCap_ge w (n + m) c' el
                          -- the old block is gone, a new one is made
                          obtain ⟨hH1, hE1⟩ := hH.write (w' := w) (o' := .gone) hg hρ (by simp [writable]) hB rfl rfl rfl rfl (fun _ _ => rfl) trivial
                          obtain ⟨h7, h8⟩ := hH1.newCells (w1 := w.drew) (Below.refl _ w).drew rfl (cs ++ news) (ys.toArray ++ news'.toArray ++ Builtin.zeroCells z.cells (grownCap w (n + m) c' el - (n + m))) el 1 (grownCap w (n + m) c' el) lo (ys ++ news') _ (by simp; rfl) (h2.append h3)
                            (fun _ => ⟨info.size, hs0, hsz, by
                              rw [Array.size_append, Array.size_append, List.size_toArray, List.size_toArray, size_zeroCells, hzs, hl', ← hyl, b2, ← Nat.add_mul, ← Nat.add_mul]
                              congr 1; omega, grownCap_le_maxLen w (n + m) c' el b3⟩)
                          exact ⟨_, _, _, hr, .one (.cell (.sl (i := 0) (Ren.add_eq ρ (H.set lo .gone).n ⟨w.heap.size, 0, grownCap w (n + m) c' el⟩) hge (fun _ => ⟨rfl, rfl, rfl⟩))), h7, h8⟩
                      · cases h
                · cases h
              · cases h
          · cases h
        · cases h
      · cases h
  · cases h

end
end Go.AI

/- The abstract machine and the model: a map's update; one operation that calls no function. -/
namespace Go.AI
open Go.RowKit
section
variable {P : Program} {B : Nat} {ρ : Ren} {H : Heap} {w : World} {tm : Tm} {a : Act}

theorem findA_at (kd : TypeDesc) (k : Value) : ∀ (es : List (Value × Value)) (i j : Nat) (v : Value), findA kd k es i = some (some (j, v)) → ∃ p kv, j = i + p ∧ es[p]? = some kv ∧ Instr.sameNow kd k kv.1 = some true
  | [], i, j, v, h => by simp [findA] at h
  | e :: es, i, j, v, h => by
    simp only [findA] at h
    split at h
    · rename_i hs; simp at h; exact ⟨0, e, by omega, rfl, hs⟩
    · obtain ⟨p, kv, h1, h2, h3⟩ := findA_at kd k es _ _ _ h
      exact ⟨p + 1, kv, by omega, by simpa using h2, h3⟩
    · cases h

theorem sameNow_bits {d : TypeDesc} {x y : Value} (h : Instr.sameNow d x y = some true) : Instr.sameBits 10000 y x = true := by
  unfold Instr.sameNow at h
  split at h
  · split at h
    · rename_i hk; subst hk; simp at h; subst h; simp [Instr.sameBits]
    · cases h
  · rename_i a b
    simp only [Option.some.injEq] at h
    obtain ⟨x⟩ := a
    obtain ⟨y⟩ := b
    have h' : (x == y) = true := h
    have e := eq_of_beq h'
    subst e
    exact h
  · simp at h; subst h; simp [Instr.sameBits]
  · cases h

theorem y_mapUpdate (hH : HR P B ρ H w) {t : TypeId} {x k v x' k' v' : Value} {H' : Heap} {lo : Nat} (hx : VT ρ x x') (hk : VT ρ k k') (hv : VT ρ v v') (h : amapUpdate P H t x k v = some (H', lo)) :
    YD P B ρ w undef H' lo (fun w _ w' => (Instr.mapUpdate t x' k' v').run P w = .ok () w') := by
  unfold amapUpdate at h
  split at h
  · rename_i kt et r hu
    split at h
    · rename_i es kd hg hkd
      split at h
      · rename_i hc
        obtain ⟨c1, c2, c3⟩ := hc
        obtain ⟨u, hu4⟩ := Option.isSome_iff_exists.1 c3
        rw [hk.plain c1]
        obtain ⟨e, hρ, rfl⟩ := vt_map hx
        obtain ⟨hB, ents, clock, hh, hl⟩ := hH.obj _ _ _ hg hρ
        have hck : (Instr.checkKey false 10000 kt k).run P w = .ok u w := pureRun_run P _ _ hu4 w
        have hs := findA_sim (ρ := ρ) kd k es ents.toList 0 hl
        have hlt : e.blk < w.heap.size := hH.top _ _ hρ
        have write : ∀ (ents' : Array MapEntry) (clock' : Nat) (es' : List (Value × Value)), L2 (MR ρ) es' ents'.toList →
            HR P B ρ (H.set r (.map es')) { w with heap := w.heap.setIfInBounds e.blk (.map ents' clock') } ∧ Ext B ρ ρ r w { w with heap := w.heap.setIfInBounds e.blk (.map ents' clock') } := fun ents' clock' es' hl' =>
          hH.write (o' := .map es') hg hρ rfl hB rfl rfl rfl (by simp) (fun j hj => by simp [Array.getElem?_setIfInBounds, Ne.symm hj])
            ⟨hB, ents', clock', by simp [hlt], hl'⟩
        split at h
        · rename_i j v0 hfa
          cases h
          obtain ⟨v1, hf, _⟩ := hs.2 _ _ hfa
          obtain ⟨p, kv, hj, hkv, hsame⟩ := findA_at kd k es 0 j v0 hfa
          simp only [Nat.zero_add] at hj
          subst hj
          obtain ⟨me, hme, hm1, hm2, hm3⟩ := hl.get hkv
          have hme' : ents[j]? = some me := by simpa using hme
          have hl' : L2 (MR ρ) (es.set j (k, v)) (ents.modify j fun e => { e with key := k, val := v' }).toList := by
            refine L2.of_get (by simpa using hl.length) fun i x y hx hy => ?_
            rw [Array.getElem?_toList, Array.getElem?_modify] at hy
            by_cases hij : j = i
            · subst hij
              rw [List.getElem?_set_self (List.getElem?_eq_some_iff.1 hkv).1] at hx
              cases hx
              rw [if_pos rfl, hme'] at hy
              simp at hy; subst hy
              exact ⟨c1, rfl, hv.to_R c2⟩
            · rw [List.getElem?_set_ne hij] at hx
              rw [if_neg hij] at hy
              exact hl.both hx (by simpa using hy)
          obtain ⟨h3, h4⟩ := write (ents.modify j fun e => { e with key := k, val := v' }) clock _ hl'
          refine ⟨ρ, undef, _, ?_, VT.undef ρ, h3, h4⟩
          have hstay : (Instr.keyThatStays kv.1 k).run P w = .ok k w := by unfold Instr.keyThatStays; rw [if_pos (sameNow_bits hsame)]; rfl
          simp [Instr.mapUpdate, run_underlying hu, getObj, Sem.run, hh, hck, Instr.findKey, run_underlying hkd, hf, hme', hm2, hstay, setObj]
        · rename_i hfa
          cases h
          have hf := hs.1 hfa
          have hl' : L2 (MR ρ) (es ++ [(k, v)]) (ents.push { key := k, val := v', born := clock }).toList := by
            rw [Array.toList_push]
            exact hl.append (.cons ⟨c1, rfl, hv.to_R c2⟩ .nil)
          obtain ⟨h3, h4⟩ := write (ents.push { key := k, val := v', born := clock }) (clock + 1) _ hl'
          refine ⟨ρ, undef, _, ?_, VT.undef ρ, h3, h4⟩
          simp [Instr.mapUpdate, run_underlying hu, getObj, Sem.run, hh, hck, Instr.findKey, run_underlying hkd, hf, setObj]
        · cases h
      · cases h
    · cases h
  · cases h

end
end Go.AI

/- The abstract machine and the model: one operation that calls no function. -/
namespace Go.AI
open Go.RowKit
section
variable {P : Program} {B : Nat} {ρ : Ren} {H : Heap} {w : World} {tm : Tm} {a : Act}

def NxIs (nx : Next) (v' : Value) : Prop := nx = .value v' ∨ (nx = .skip ∧ v' = undef)

def nv (s : Sem Value) : Sem Next := do pure (Next.value (← s))
def nu (s : Sem Unit) : Sem Next := do s; pure Next.skip

/-- An operation that is quiet. -/
def QO (P : Program) (ρ : Ren) (w : World) (a : Act) (o : Oper) (v : Value) : Prop :=
  ∃ v', VT ρ v v' ∧ ∀ w1, Below w.heap.size w w1 → (execOp a.eval o).run P w1 = .ok (.value v') w1

/-- An operation, whatever it does. -/
def YO (P : Program) (B : Nat) (ρ : Ren) (w : World) (a : Act) (o : Oper) (v : Value) (H' : Heap) (lo : Nat) : Prop :=
  ∃ ρ' nx v' w', (execOp a.eval o).run P w = .ok nx w' ∧ NxIs nx v' ∧ VT ρ' v v' ∧ HR P B ρ' H' w' ∧ Ext B ρ ρ' lo w w'

theorem QO.yo (hH : HR P B ρ H w) {o : Oper} {v : Value} (h : QO P ρ w a o v) (lo : Nat) : YO P B ρ w a o v H lo := by
  obtain ⟨v', h1, h2⟩ := h
  exact ⟨ρ, _, v', w, h2 w (Below.refl _ _), .inl rfl, h1, hH, Ext.refl _ _ _ _⟩
theorem QY.qo {o : Oper} {v : Value} {s : Sem Value} (h : QY P ρ w v s) (he : execOp a.eval o = nv s) : QO P ρ w a o v := by
  obtain ⟨v', h1, h2⟩ := h
  exact ⟨v', h1, fun w1 hb => by rw [he]; simp [nv, h2 w1 hb]⟩
theorem YD.yo {o : Oper} {v : Value} {H' : Heap} {lo : Nat} {s : Sem Value} (h : YD P B ρ w v H' lo (fun w v' w' => s.run P w = .ok v' w')) (he : execOp a.eval o = nv s) : YO P B ρ w a o v H' lo := by
  obtain ⟨ρ', v', w', h1, h2, h3, h4⟩ := h
  exact ⟨ρ', _, v', w', by rw [he]; simp [nv, h1], .inl rfl, h2, h3, h4⟩
theorem YD.yo_skip {o : Oper} {H' : Heap} {lo : Nat} {s : Sem Unit} (h : YD P B ρ w undef H' lo (fun w _ w' => s.run P w = .ok () w')) (he : execOp a.eval o = nu s) : YO P B ρ w a o undef H' lo := by
  obtain ⟨ρ', v', w', h1, h2, h3, h4⟩ := h
  exact ⟨ρ', _, undef, w', by rw [he]; simp [nu, h1], .inr ⟨rfl, rfl⟩, VT.undef _, h3, h4⟩

theorem ret_some {H H' : Heap} {x : Option Value} {v : Value} {lo : Nat} (h : ret H x = some (v, H', lo)) : x = some v ∧ H' = H ∧ lo = H.n := by
  unfold ret at h
  split at h <;> cases h
  exact ⟨rfl, rfl, rfl⟩

theorem qo_pure (hH : HR P B ρ H w) (hF : FR ρ tm a) {o : Oper} {v : Value} (h : apure P tm o = some v) : QO P ρ w a o v := by
  obtain ⟨h1, h2⟩ := q_pure hH hF h
  exact ⟨v, h1, fun w1 _ => h2 w1⟩

theorem two {α β : Type} {x : α} {xs : Array α} {f : α → β} (h : xs.toList = [x]) : xs.map f = #[f x] := by
  rw [← Array.toList_inj, Array.toList_map, h]; rfl

theorem run_underlying {t : TypeId} {d : TypeDesc} (h : P.underlying t = some d) (w1 : World) : (underlying t).run P w1 = .ok d w1 := by
  unfold underlying
  rw [Sem.run_bind, show (program).run P w1 = .ok P w1 from rfl]
  simp only [Result.andThen_ok, h]
  rfl
theorem anil_run {op : BinOp} {x y v x' y' : Value} {t : TypeId} {xo yo : Operand} {ρ : Ren} {w : World} (h : anil P t op x y = some v) (hx : VT ρ x x') (hy : VT ρ y y') : plain v = true ∧
    ∀ w1 : World, ((do eqGuard op t xo yo x' y'; binOp op t x' y' : Sem Value)).run P w1 = .ok v w1 := by
  unfold anil at h
  split at h
  · have hy' := hy.plain rfl
    subst hy'
    obtain ⟨s, n, c, rfl⟩ : ∃ s n c, x' = .slice (some s) n c := by
      cases hx with
      | one hx => cases hx with
        | cell hx => cases hx with
          | same hs => simp [scalar] at hs
          | sl _ _ _ => exact ⟨_, _, _, rfl⟩
          | anon _ _ => exact ⟨_, _, _, rfl⟩
    split at h
    · rename_i e he
      cases h
      refine ⟨rfl, fun w1 => ?_⟩
      have hq : (Op.equal t (.slice (some s) n c) (.slice none 0 0)).run P w1 = .ok false w1 := by
        unfold Op.equal
        rw [show Op.maxDepth = 9999 + 1 from rfl, Op.equalIn, Sem.run_bind, run_underlying he]
        rfl
      rw [show (do eqGuard .eql t xo yo (.slice (some s) n c) (.slice none 0 0); binOp .eql t (.slice (some s) n c) (.slice none 0 0) : Sem Value) = (do pure (.bool (← Op.equal t (.slice (some s) n c) (.slice none 0 0)))) from rfl, Sem.run_bind, hq]
      rfl
    · rename_i e he
      cases h
      refine ⟨rfl, fun w1 => ?_⟩
      have hq : (Op.equal t (.slice (some s) n c) (.slice none 0 0)).run P w1 = .ok false w1 := by
        unfold Op.equal
        rw [show Op.maxDepth = 9999 + 1 from rfl, Op.equalIn, Sem.run_bind, run_underlying he]
        rfl
      rw [show (do eqGuard .neq t xo yo (.slice (some s) n c) (.slice none 0 0); binOp .neq t (.slice (some s) n c) (.slice none 0 0) : Sem Value) = (do pure (.bool (!(← Op.equal t (.slice (some s) n c) (.slice none 0 0))))) from rfl, Sem.run_bind, hq]
      rfl
    · cases h
  · have hy' := hy.plain rfl
    subst hy'
    obtain ⟨s, rfl⟩ : ∃ s, x' = .pointer (some s) := by
      cases hx with
      | one hx => cases hx with
        | cell hx => cases hx with
          | same hs => simp [scalar] at hs
          | ptr _ => exact ⟨_, rfl⟩
    split at h
    · rename_i e he
      cases h
      refine ⟨rfl, fun w1 => ?_⟩
      have hq : (Op.equal t (.pointer (some s)) (.pointer none)).run P w1 = .ok false w1 := by
        unfold Op.equal
        rw [show Op.maxDepth = 9999 + 1 from rfl, Op.equalIn, Sem.run_bind, run_underlying he]
        rfl
      rw [show (do eqGuard .eql t xo yo (.pointer (some s)) (.pointer none); binOp .eql t (.pointer (some s)) (.pointer none) : Sem Value) = (do pure (.bool (← Op.equal t (.pointer (some s)) (.pointer none)))) from rfl, Sem.run_bind, hq]
      rfl
    · rename_i e he
      cases h
      refine ⟨rfl, fun w1 => ?_⟩
      have hq : (Op.equal t (.pointer (some s)) (.pointer none)).run P w1 = .ok false w1 := by
        unfold Op.equal
        rw [show Op.maxDepth = 9999 + 1 from rfl, Op.equalIn, Sem.run_bind, run_underlying he]
        rfl
      rw [show (do eqGuard .neq t xo yo (.pointer (some s)) (.pointer none); binOp .neq t (.pointer (some s)) (.pointer none) : Sem Value) = (do pure (.bool (!(← Op.equal t (.pointer (some s)) (.pointer none))))) from rfl, Sem.run_bind, hq]
      rfl
    · cases h
  · have hy' := hy.plain rfl
    subst hy'
    obtain ⟨s, rfl⟩ : ∃ s, x' = .map (some s) := by
      cases hx with
      | one hx => cases hx with
        | cell hx => cases hx with
          | same hs => simp [scalar] at hs
          | map _ => exact ⟨_, rfl⟩
    split at h
    · rename_i k e he
      cases h
      refine ⟨rfl, fun w1 => ?_⟩
      have hq : (Op.equal t (.map (some s)) (.map none)).run P w1 = .ok false w1 := by
        unfold Op.equal
        rw [show Op.maxDepth = 9999 + 1 from rfl, Op.equalIn, Sem.run_bind, run_underlying he]
        rfl
      rw [show (do eqGuard .eql t xo yo (.map (some s)) (.map none); binOp .eql t (.map (some s)) (.map none) : Sem Value) = (do pure (.bool (← Op.equal t (.map (some s)) (.map none)))) from rfl, Sem.run_bind, hq]
      rfl
    · rename_i k e he
      cases h
      refine ⟨rfl, fun w1 => ?_⟩
      have hq : (Op.equal t (.map (some s)) (.map none)).run P w1 = .ok false w1 := by
        unfold Op.equal
        rw [show Op.maxDepth = 9999 + 1 from rfl, Op.equalIn, Sem.run_bind, run_underlying he]
        rfl
      rw [show (do eqGuard .neq t xo yo (.map (some s)) (.map none); binOp .neq t (.map (some s)) (.map none) : Sem Value) = (do pure (.bool (!(← Op.equal t (.map (some s)) (.map none))))) from rfl, Sem.run_bind, hq]
      rfl
    · cases h
  · cases h

theorem find_none {n : String} (h1 : Extern.allNextRows.lookup n = none) (h2 : Extern.allNextRows.lookup "" = none) {fn : Func} (ho : fn.origin = "") (hn : fn.name = n) : Extern.findNext fn = none := by
  unfold Extern.findNext
  simp only [hn, ho, h1, h2, Option.map_none]
  rfl
theorem find_some {n : String} {e : Array Value → Sem Value} (h1 : Extern.allGenericRows.lookup n = none) (h2 : Extern.allTypedRows.lookup n = none) (h3 : Extern.allRows.lookup n = some e) {fn : Func} (hn : fn.name = n) : Extern.find fn = some e := by
  unfold Extern.find
  simp only [hn, h1, h2, h3, Option.map_none]
  rfl
theorem ext_find {fn : Func} (h : extKind fn = 1 ∨ extKind fn = 2) : Extern.findNext fn = none ∧ (fn.name == "runtime.NumGoroutine") = false ∧
    ((extKind fn = 1 → Extern.find fn = some Extern.BytealgCount.count) ∧ (extKind fn = 2 → Extern.find fn = some Extern.BytealgIndexByte.indexByte)) := by
  unfold extKind at h ⊢
  split at h
  · rename_i h1
    refine ⟨find_none (n := "internal/bytealg.CountString") (by kernel_rfl) (by kernel_rfl) h1.1 h1.2, by rw [h1.2]; decide, fun _ => find_some (n := "internal/bytealg.CountString") (by kernel_rfl) (by kernel_rfl) (by kernel_rfl) h1.2, fun h => ?_⟩
    rw [if_pos h1] at h; cases h
  · rename_i h0
    split at h
    · rename_i h1
      refine ⟨find_none (n := "internal/bytealg.IndexByteString") (by kernel_rfl) (by kernel_rfl) h1.1 h1.2, by rw [h1.2]; decide, fun h => ?_, fun _ => find_some (n := "internal/bytealg.IndexByteString") (by kernel_rfl) (by kernel_rfl) (by kernel_rfl) h1.2⟩
      rw [if_neg h0, if_pos h1] at h; cases h
    · rcases h with h | h <;> cases h
theorem l2_two {ρ : Ren} {x y : Value} {l : List Value} (h : L2 (VT ρ) [x, y] l) : ∃ x' y', l = [x', y'] ∧ VT ρ x x' ∧ VT ρ y y' := by
  cases h with
  | cons h1 h2 => cases h2 with
    | cons h3 h4 => cases h4; exact ⟨_, _, rfl, h1, h3⟩
theorem vt_fn {ρ : Ren} {f : FuncId} {first cap : Array Value} {v' : Value} (h : VT ρ (.func (.func f) first cap) v') (h0 : first.size = 0) : ∃ cap', v' = .func (.func f) #[] cap' ∧ L2 (VT ρ) cap.toList cap'.toList := by
  have hf : first = #[] := Array.size_eq_zero_iff.1 h0
  subst hf
  cases h with
  | one h => cases h with
    | cell h => cases h with
      | same hs =>
        have hc : cap = #[] := Array.size_eq_zero_iff.1 (by simpa [scalar] using hs)
        subst hc
        exact ⟨#[], rfl, .nil⟩
      | fn hs h => exact ⟨_, rfl, L2.of_get (by simpa using hs) fun i x y hx hy => .one (.cell (h i x y hx hy))⟩
theorem vt_yld {ρ : Ren} {l : Nat} {first cap : Array Value} {v' : Value} (h : VT ρ (.func (.yield l) first cap) v') : ∃ e, ρ l = some e ∧ v' = .func (.yield e.blk) #[] #[] := by
  cases h with
  | one h => cases h with
    | cell h => cases h with
      | same hs => simp [scalar] at hs
      | yld h => exact ⟨_, h, rfl⟩
theorem extVal_kind {k : Nat} {l : List Value} {v : Value} (h : extVal k l = some v) : k = 1 ∨ k = 2 := by
  unfold extVal at h
  split at h
  · exact .inl rfl
  · exact .inr rfl
  · cases h
/-- A call of a function that has no body. -/
theorem qo_ext (hH : HR P B ρ H w) (hF : FR ρ tm a) {o : Oper} {c : Call} {g : Operand} {v : Value} (hop : o.op = .call c) (hg : c.callee = .value g) (h : extOf P tm g c.args = some v) : QO P ρ w a o v := by
  unfold extOf at h
  split at h
  · rename_i f first cap hev
    split at h
    · rename_i h0
      split at h
      · rename_i fn hfn
        split at h
        · rename_i hb
          split at h
          · rename_i l hl
            obtain ⟨cap', e1, h2⟩ := vt_fn (ev_sound hH hF hev) h0.1
            have hcap : cap = #[] := Array.size_eq_zero_iff.1 h0.2
            subst hcap
            have hcap' : cap' = #[] := by
              have := h2.length
              exact Array.size_eq_zero_iff.1 (by simpa using this.symm)
            subst hcap'
            have h3 := evs_sound hH hF _ _ hl
            have key : ∀ (e : Array Value → Sem Value) (s : ByteArray) (k : Int) (r : Value), l = [.string s, .int .u8 k] → Extern.findNext fn = none → (fn.name == "runtime.NumGoroutine") = false → Extern.find fn = some e →
                (∀ w1, (e #[.string s, .int .u8 k]).run P w1 = .ok r w1) → ∀ w1, (execOp a.eval o).run P w1 = .ok (.value r) w1 := by
              intro e s k r el hn hnm he hr w1
              subst el
              obtain ⟨x', y', e2, hx, hy⟩ := l2_two h3
              have ex := vt_str hx
              have ey := vt_int hy
              subst ex; subst ey
              have e3 : c.args.map a.eval = #[.string s, .int .u8 k] := by
                apply Array.toList_inj.1; simpa using e2
              have := run_callFunc_extern hfn hnm hb hn he #[.string s, .int .u8 k] w1
              rw [hr w1] at this
              simp [execOp, hop, resolve, hg, e1, Deferred.ofValue, invoke, e3, this, Result.andThen]
            have hk : extKind fn = 1 ∨ extKind fn = 2 := extVal_kind h
            obtain ⟨f1, f2, f3, f4⟩ := ext_find hk
            rcases hk with hk | hk
            · rw [hk] at h
              unfold extVal at h
              split at h
              · rename_i s k _
                cases h
                exact ⟨_, VT.of_plain (by rfl), fun w1 _ => key _ s k _ rfl f1 f2 (f3 hk) (fun w2 => Go.Lib.run_countString s k w2) w1⟩
              · rename_i hh; cases hh
              · cases h
            · rw [hk] at h
              unfold extVal at h
              split at h
              · rename_i hh; cases hh
              · rename_i s k _
                cases h
                exact ⟨_, VT.of_plain (by rfl), fun w1 _ => key _ s k _ rfl f1 f2 (f4 hk) (fun w2 => Go.Lib.run_indexByteString s k w2) w1⟩
              · cases h
          · cases h
        · cases h
      · cases h
    · cases h
  · cases h


/-- What step1 yields for an operation that is seen as quiet. -/
theorem step1_quiet (hH : HR P B ρ H w) (hF : FR ρ tm a) {o : Oper} {v : Value} {H' : Heap} {lo : Nat} (hq : quietOp o = true) (h : step1 P tm H o = some (v, H', lo)) : QO P ρ w a o v ∧ H' = H ∧ lo = H.n := by
  unfold step1 at h
  split at h
  · rename_i x hop
    obtain ⟨h1, h2, h3⟩ := ret_some h
    exact ⟨⟨_, ev_sound hH hF h1, fun w1 _ => by simp [execOp, hop]⟩, h2, h3⟩
  · rename_i x hop
    obtain ⟨h1, h2, h3⟩ := ret_some h
    exact ⟨⟨_, ev_sound hH hF h1, fun w1 _ => by simp [execOp, hop]⟩, h2, h3⟩
  · rename_i c x y hop
    unfold sPick at h
    split at h
    · rename_i hc
      obtain ⟨h1, h2, h3⟩ := ret_some h
      have := vt_bool (ev_sound hH hF hc)
      exact ⟨⟨_, ev_sound hH hF h1, fun w1 _ => by simp [execOp, hop, this, asBool]⟩, h2, h3⟩
    · rename_i hc
      obtain ⟨h1, h2, h3⟩ := ret_some h
      have := vt_bool (ev_sound hH hF hc)
      exact ⟨⟨_, ev_sound hH hF h1, fun w1 _ => by simp [execOp, hop, this, asBool]⟩, h2, h3⟩
    · cases h
  · rename_i hop; simp [quietOp, hop] at hq
  · rename_i hop; simp [quietOp, hop] at hq
  · rename_i t x hop
    unfold sLoad at h
    split at h
    · rename_i u hu
      obtain ⟨h1, h2, h3⟩ := ret_some h
      exact ⟨(q_load hH (ev_sound hH hF hu) h1).qo (by simp only [execOp, hop]; rfl), h2, h3⟩
    · cases h
  · rename_i hop; simp [quietOp, hop] at hq
  · rename_i x hop
    unfold sNil at h
    split at h
    · rename_i u hu
      obtain ⟨h1, h2, h3⟩ := ret_some h
      rcases q_nil (ev_sound hH hF hu) h1 with ⟨g1, ad, g2⟩ | ⟨g1, f, y, z, g2, ⟨f', rfl⟩ | ⟨f', rfl⟩⟩
      · exact ⟨⟨_, g1, fun w1 _ => by simp [execOp, hop, g2]⟩, h2, h3⟩
      · exact ⟨⟨_, g1, fun w1 _ => by simp [execOp, hop, g2]⟩, h2, h3⟩
      · exact ⟨⟨_, g1, fun w1 _ => by simp [execOp, hop, g2]⟩, h2, h3⟩
    · cases h
  · rename_i hop; simp [quietOp, hop] at hq
  · rename_i hop; simp [quietOp, hop] at hq
  · rename_i hop; simp [quietOp, hop] at hq
  · rename_i t x l hh mx hop
    unfold sSlice at h
    split at h
    · split at h
      · rename_i u hu
        obtain ⟨h1, h2, h3⟩ := ret_some h
        exact ⟨(q_slice hH hF (ev_sound hH hF hu) h1).qo (by simp only [execOp, hop]; rfl), h2, h3⟩
      · cases h
    · cases h
  · rename_i s x f hop
    unfold sFieldAddr at h
    split at h
    · rename_i u hu
      obtain ⟨h1, h2, h3⟩ := ret_some h
      exact ⟨(q_fieldAddr (ev_sound hH hF hu) h1).qo (by simp only [execOp, hop]; rfl), h2, h3⟩
    · cases h
  · rename_i t x i hop
    unfold sIndexAddr at h
    split at h
    · rename_i u j hu hj
      obtain ⟨h1, h2, h3⟩ := ret_some h
      exact ⟨(q_indexAddr (ev_sound hH hF hu) (ev_sound hH hF hj) h1).qo (by simp only [execOp, hop]; rfl), h2, h3⟩
    · cases h
  · rename_i t x f hop
    unfold sField at h
    split at h
    · rename_i u hu
      obtain ⟨h1, h2, h3⟩ := ret_some h
      exact ⟨(q_field (ev_sound hH hF hu) h1).qo (by simp only [execOp, hop]; rfl), h2, h3⟩
    · cases h
  · rename_i t x i hop
    unfold sIndex at h
    split at h
    · rename_i u j hu hj
      obtain ⟨h1, h2, h3⟩ := ret_some h
      exact ⟨(q_index (ev_sound hH hF hu) (ev_sound hH hF hj) h1).qo (by simp only [execOp, hop]; rfl), h2, h3⟩
    · cases h
  · rename_i x i hop
    unfold sExtract at h
    split at h
    · rename_i vs hu
      obtain ⟨h1, h2, h3⟩ := ret_some h
      exact ⟨(q_extract (ev_sound hH hF hu) h1).qo (by simp only [execOp, hop]; rfl), h2, h3⟩
    · cases h
  · rename_i t parts hop
    unfold sBuild at h
    split at h
    · rename_i l hl
      obtain ⟨h1, h2, h3⟩ := ret_some h
      exact ⟨(q_build hH hF hl h1).qo (by simp only [execOp, hop]; rfl), h2, h3⟩
    · cases h
  · rename_i hop; simp [quietOp, hop] at hq
  · rename_i t x k ok hop
    unfold sLookup at h
    split at h
    · rename_i u j hu hj
      obtain ⟨h1, h2, h3⟩ := ret_some h
      exact ⟨(q_lookup hH (ev_sound hH hF hu) (ev_sound hH hF hj) h1).qo (by simp only [execOp, hop]; rfl), h2, h3⟩
    · cases h
  · rename_i hop; simp [quietOp, hop] at hq
  · rename_i hop; simp [quietOp, hop] at hq
  · rename_i s d x hop
    unfold sConvert at h
    split at h
    · rename_i u hu
      split at h
      · obtain ⟨h1, h2, h3⟩ := ret_some h
        exact ⟨qo_pure hH hF h1, h2, h3⟩
      · obtain ⟨h1, h2, h3⟩ := ret_some h
        exact ⟨(q_convert hH (ev_sound hH hF hu) h1).qo (by simp only [execOp, hop]; rfl), h2, h3⟩
    · cases h
  · rename_i c hop
    unfold sCall at h
    split at h
    · rename_i b hb
      unfold sBuiltin at h
      split at h
      · unfold sLen at h
        split at h
        · rename_i x t hx ht
          split at h
          · rename_i u hu
            obtain ⟨h1, h2, h3⟩ := ret_some h
            refine ⟨(q_len hH (ty := o.type) (ev_sound hH hF hu) h1 ht).qo ?_, h2, h3⟩
            have e1 : c.args.map a.eval = #[a.eval x] := two hx
            simp only [execOp, hop, resolve, hb, e1]
            rfl
          · cases h
        · cases h
      · obtain ⟨callee, args, tys⟩ := c
        simp only at hb
        subst hb
        simp [quietOp, hop] at hq
      · obtain ⟨h1, h2, h3⟩ := ret_some h
        exact ⟨qo_pure hH hF h1, h2, h3⟩
    · rename_i g hg
      obtain ⟨h1, h2, h3⟩ := ret_some h
      exact ⟨qo_ext hH hF hop hg h1, h2, h3⟩
    · obtain ⟨h1, h2, h3⟩ := ret_some h
      exact ⟨qo_pure hH hF h1, h2, h3⟩
  · rename_i op t x y t' hop
    unfold sBin at h
    split at h
    · rename_i p q hp hq'
      split at h
      · rename_i u hu
        cases h
        obtain ⟨h1, _⟩ := abin_run (P := P) (t := t) (xo := x) (yo := y) hu w
        have ex := ev_sound hH hF hp
        have ey := ev_sound hH hF hq'
        have hpi : ∃ k n, p = .int k n := by
          unfold abin at hu
          split at hu
          · exact ⟨_, _, rfl⟩
          · cases hu
        have hqi : ∃ k n, q = .int k n := by
          unfold abin at hu
          split at hu
          · exact ⟨_, _, rfl⟩
          · cases hu
        obtain ⟨k, n, rfl⟩ := hpi
        obtain ⟨k', n', rfl⟩ := hqi
        refine ⟨⟨v, VT.of_plain h1, fun w1 _ => ?_⟩, rfl, rfl⟩
        have := (abin_run (P := P) (t := t) (xo := x) (yo := y) hu w1).2
        simp only [execOp, hop, vt_int ex, vt_int ey]
        rw [Sem.run_bind, this]; rfl
      · split at h
        · rename_i u hu
          cases h
          have ex := ev_sound hH hF hp
          have ey := ev_sound hH hF hq'
          obtain ⟨h1, h2⟩ := anil_run (w := w) (xo := x) (yo := y) hu ex ey
          refine ⟨⟨v, VT.of_plain h1, fun w1 _ => ?_⟩, rfl, rfl⟩
          simp only [execOp, hop]
          rw [Sem.run_bind, h2 w1]; rfl
        · obtain ⟨h1, h2, h3⟩ := ret_some h
          exact ⟨qo_pure hH hF h1, h2, h3⟩
    · cases h
  · obtain ⟨h1, h2, h3⟩ := ret_some h
    exact ⟨qo_pure hH hF h1, h2, h3⟩
  · cases h

theorem pair {α β : Type} {x y : α} {xs : Array α} {f : α → β} (h : xs.toList = [x, y]) : xs.map f = #[f x, f y] := by
  rw [← Array.toList_inj, Array.toList_map, h]; rfl

/-- What step1 yields, for whatever operation. -/
theorem step1_sound (hH : HR P B ρ H w) (hF : FR ρ tm a) {o : Oper} {v : Value} {H' : Heap} {lo : Nat} (h : step1 P tm H o = some (v, H', lo)) : YO P B ρ w a o v H' lo := by
  by_cases hq : quietOp o = true
  · obtain ⟨h1, rfl, rfl⟩ := step1_quiet hH hF hq h
    exact h1.yo hH _
  · unfold step1 at h
    split at h
    · rename_i hop; simp [quietOp, hop] at hq
    · rename_i hop; simp [quietOp, hop] at hq
    · rename_i hop; simp [quietOp, hop] at hq
    · rename_i t hop
      unfold sAlloc at h
      split at h
      · rename_i z hz
        split at h <;> cases h
        rename_i hs
        have hz' : ∃ i, P.info? t = some i ∧ i.zero = some z := by
          cases hi : P.info? t with
          | none => rw [hi] at hz; cases hz
          | some i => rw [hi] at hz; exact ⟨i, rfl, hz⟩
        obtain ⟨i, hi, hzz⟩ := hz'
        exact (y_alloc hH hi hzz hs).yo (by simp only [execOp, hop]; rfl)
      · cases h
    · rename_i t x hop
      unfold sBox at h
      split at h
      · rename_i u hu
        split at h <;> cases h
        rename_i hn
        exact (y_box hH (ev_sound hH hF hu) hn).yo (by simp only [execOp, hop]; rfl)
      · cases h
    · rename_i hop; simp [quietOp, hop] at hq
    · rename_i t x y hop
      unfold sStore at h
      split at h
      · rename_i u j hu hj
        split at h <;> cases h
        rename_i hst
        exact (y_store hH (ev_sound hH hF hu) (ev_sound hH hF hj) hst).yo_skip (by simp only [execOp, hop]; rfl)
      · cases h
    · rename_i hop; simp [quietOp, hop] at hq
    · rename_i fn first cap hop
      unfold sFunc at h
      split at h
      · rename_i f
        split at h
        · rename_i hf0
          split at h
          · rename_i l hl
            split at h <;> cases h
            rename_i hc
            exact ((q_func hH hF hf0 hl hc).qo (by simp only [execOp, hop]; rfl)).yo hH _
          · cases h
        · cases h
      · cases h
    · rename_i t r hop
      unfold sMakeMap at h
      split at h <;> cases h
      exact (y_makeMap hH t).yo (by simp only [execOp, hop]; rfl)
    · rename_i t l c hop
      unfold sMakeSlice at h
      split at h
      · rename_i u j hu hj
        exact (y_makeSlice hH (ev_sound hH hF hu) (ev_sound hH hF hj) h).yo (by simp only [execOp, hop]; rfl)
      · cases h
    · rename_i hop; simp [quietOp, hop] at hq
    · rename_i hop; simp [quietOp, hop] at hq
    · rename_i hop; simp [quietOp, hop] at hq
    · rename_i hop; simp [quietOp, hop] at hq
    · rename_i hop; simp [quietOp, hop] at hq
    · rename_i hop; simp [quietOp, hop] at hq
    · rename_i hop; simp [quietOp, hop] at hq
    · rename_i t len parts hop
      unfold sBuildSlice at h
      split at h
      · rename_i l hl
        exact (y_buildSlice hH hF hl h).yo (by simp only [execOp, hop]; rfl)
      · cases h
    · rename_i hop; simp [quietOp, hop] at hq
    · rename_i t m k x hop
      unfold sMapUpdate at h
      split at h
      · rename_i u j i hu hj hi
        split at h <;> cases h
        rename_i hst
        exact (y_mapUpdate hH (ev_sound hH hF hu) (ev_sound hH hF hj) (ev_sound hH hF hi) hst).yo_skip (by simp only [execOp, hop]; rfl)
      · cases h
    · rename_i t m k x hop
      unfold sMapUpdate at h
      split at h
      · rename_i u j i hu hj hi
        split at h <;> cases h
        rename_i hst
        exact (y_mapUpdate hH (ev_sound hH hF hu) (ev_sound hH hF hj) (ev_sound hH hF hi) hst).yo_skip (by simp only [execOp, hop]; rfl)
      · cases h
    · rename_i hop; simp [quietOp, hop] at hq
    · rename_i c hop
      unfold sCall at h
      split at h
      · rename_i b hb
        unfold sBuiltin at h
        split at h
        · obtain ⟨callee, args, tys⟩ := c
          simp only at hb
          subst hb
          simp [quietOp, hop] at hq
        · unfold sAppend at h
          split at h
          · rename_i x y hx
            split at h
            · rename_i u j hu hj
              refine (y_append hH (ty := o.type) (ev_sound hH hF hu) (ev_sound hH hF hj) h).yo ?_
              have e1 : c.args.map a.eval = #[a.eval x, a.eval y] := pair hx
              simp only [execOp, hop, resolve, hb, e1]
              rfl
            · cases h
          · cases h
        · obtain ⟨h1, h2, h3⟩ := ret_some h
          subst h2; subst h3
          exact (qo_pure hH hF h1).yo hH _
      · rename_i g hg
        obtain ⟨h1, h2, h3⟩ := ret_some h
        subst h2; subst h3
        exact (qo_ext hH hF hop hg h1).yo hH _
      · obtain ⟨h1, h2, h3⟩ := ret_some h
        subst h2; subst h3
        exact (qo_pure hH hF h1).yo hH _
    · rename_i hop; simp [quietOp, hop] at hq
    · rename_i hop; simp [quietOp, hop] at hq
    · cases h

end
end Go.AI

/- The abstract machine and the model: regions that draw their order: a quiet head, and a tail whose order is forced; in whatever fence. -/
namespace Go.AI
open Go.RowKit
section
variable {F : Fence} {n : Nat} {P : Program} {ops : Array Oper} {md : Region.Mode} {C : World → Prop}

def noDefer (o : Oper) : Prop := ∀ c, o.op ≠ .defer c

theorem semAt_of {r : Option Nat} {o : Oper} (h : noDefer o) (e : Operand → Value) : o.semAt r e = execOp e o := by
  unfold Oper.semAt
  split
  · rename_i c hc; exact absurd hc (h c)
  · rfl

theorem wpIn_of_quiet' {o : Oper} {a : Act} {K : Act → Prop} {K' : Act → World → Prop} {Q' : Exit → Act → World → Prop} {w : World} (hnd : noDefer o) (hw : C w) (h : ∀ a w', C w' → K a → K' a w')
    (ha : o.askedIn F P a C) (hh : o.quietIn F n P a C K) : o.wpIn F n P a w K' Q' := by
  obtain ⟨v, h1, h2⟩ := hh
  have h3 := h1 w hw
  unfold Oper.quietAtIn at h3
  unfold Oper.wpIn
  refine ⟨ha w hw, ?_⟩
  rw [semAt_of hnd]
  generalize (execOp a.eval o).run P w = r at *
  cases r with
  | ok x w' =>
    cases x <;> simp only [Oper.quietUponIn] at h3 <;> simp only [Oper.uponIn]
    case value u =>
      obtain ⟨e1, e2⟩ := h3
      rw [e1, e2]
      exact h _ _ hw h2
    case skip =>
      obtain ⟨e1, e2⟩ := h3
      rw [e1, ← e2]
      exact h _ _ hw h2
    case enter f args =>
      obtain ⟨e1, hd, hc⟩ := h3
      rw [e1]
      exact ⟨hd, hc.mono fun e w'' ⟨he, hw''⟩ => by subst he; exact h _ _ hw'' h2⟩
  | halt x w' => simp only [Oper.quietUponIn] at h3

theorem wpOpIn_of_qOpIn' (hnd : ∀ (i : Nat) (o : Oper), ops[i]? = some o → noDefer o) {i : Nat} {a : Act} {K : Act → Prop} {K' : Act → World → Prop} {Q' : Exit → Act → World → Prop} {w : World} (hC : C w) (h : ∀ a w', C w' → K a → K' a w')
    (hh : qOpIn F n P ops C i K a) : wpOpIn F n P ops Q' i K' a w := by
  unfold qOpIn at hh
  unfold wpOpIn
  split
  · rename_i ho; simp only [ho] at hh; exact h _ _ hC hh
  · rename_i o ho
    simp only [ho] at hh
    obtain ⟨ha, hh⟩ := hh
    split
    · rename_i hw; simp only [hw, if_true] at hh; exact wpIn_of_quiet' (hnd i o ho) hC h ha hh
    · rename_i hw; simp only [hw] at hh; exact ⟨ha w hC, h _ _ hC hh⟩

theorem wpAnyIn_of_quiet' (hnd : ∀ (i : Nat) (o : Oper), ops[i]? = some o → noDefer o) {Q : Act → Prop} {Q' : Exit → Act → World → Prop} (hQ : ∀ a w, C w → Q a → Q' .normal a w) : ∀ (fuel : Nat) (listed : Array Bool) (a : Act) (w : World), C w →
    wpAnyQIn F n P md ops C Q fuel listed a → wpAnyIn F n P md ops Q' fuel listed a w
  | 0, _, _, _, hw, h => ⟨h.1, hQ _ _ hw h.2⟩
  | fuel + 1, _, _, _, hw, h => ⟨fun h0 => hQ _ _ hw (h.1 h0), fun i hi => wpOpIn_of_qOpIn' hnd hw (fun a' w' hw' => wpAnyIn_of_quiet' hnd hQ fuel _ a' w' hw') (h.2 i hi)⟩

theorem region_quiet (hnd : ∀ (i : Nat) (o : Oper), ops[i]? = some o → noDefer o) {id : Nat} {Q : Exit → Act → World → Prop} {a : Act} {w : World} (hm : P.follows .mixedOrders = true) (hB : Region.lexB .any ops = true) (hC : C { w with drawn := w.drawn + 1 })
    (h : wpQuietIn F n P ops C (fun a' => ∀ w', C w' → Q .normal a' w') ops.toList a) : (Code.region id ops true).wpIn F n P Q a w := by
  simp only [Region.lexB, Bool.and_eq_true] at hB
  refine wpIn_region_any hm (wpAnyIn_of_quiet' hnd (Q := fun a' => ∀ w', C w' → Q .normal a' w') (fun _ w' hw' h => h w' hw') _ _ _ _ hC ?_)
  have := wpAnyQIn_lex (F := F) (n := n) (C := C) (md := .any) hB.1 ops.toList 0 (Array.replicate ops.size false) a (by simp) (by simpa using hB.2) h
  simpa using this

/-- The head's operations in whatever order their edges allow; then L. -/
def anyL (F : Fence) (n : Nat) (P : Program) (md : Region.Mode) (ops : Array Oper) (C : World → Prop) (m : Nat) (L : Array Bool → Act → Prop) : Nat → Array Bool → Act → Prop
  | 0, listed, a => L listed a
  | f + 1, listed, a => Region.ready md ops listed ≠ [] ∧ ∀ i ∈ Region.ready md ops listed, i < m ∧ qOpIn F n P ops C i (anyL F n P md ops C m L f (listed.setIfInBounds i true)) a

theorem anyIn_of_head (hnd : ∀ (i : Nat) (o : Oper), ops[i]? = some o → noDefer o) {m g : Nat} {L : Array Bool → Act → Prop} {Q' : Exit → Act → World → Prop} (hL : ∀ listed a w, C w → L listed a → wpAnyIn F n P md ops Q' g listed a w) :
    ∀ (f : Nat) (listed : Array Bool) (a : Act) (w : World), C w → anyL F n P md ops C m L f listed a → wpAnyIn F n P md ops Q' (f + g) listed a w
  | 0, listed, a, w, hw, h => by rw [Nat.zero_add]; exact hL _ _ _ hw h
  | f + 1, listed, a, w, hw, h => by
    rw [show f + 1 + g = (f + g) + 1 by omega]
    exact ⟨fun h0 => absurd h0 h.1, fun i hi => wpOpIn_of_qOpIn' hnd hw (fun a' w' hw' h' => anyIn_of_head hnd hL f _ a' w' hw' h') (h.2 i hi).2⟩

theorem anyL_first {m i : Nat} {oi : Oper} {v : Value} {L : Array Bool → Act → Prop} (hi : ops[i]? = some oi) (hsel : ∀ (j : Nat) (o : Oper) cs b, ops[j]? = some o → o.op ≠ .select cs b)
    (hs : Region.sinkB md ops m = true) (hc : Region.chainB md ops m = true) (hn : m < ops.size) (hin : i < m)
    (hdone : ∀ listed a, L listed a → ∀ j ∈ Region.ready md ops listed, m ≤ j) :
    ∀ (f : Nat) (listed : Array Bool) (a : Act), HeadInv md ops m listed →
      (∀ j oj, ops[j]? = some oj → j ≠ i → listed.getD j true = false → (∀ e ∈ oj.after, Region.binds md e = true → e.on ≠ i) → oi.apart ops oj = true) →
      i ∈ Region.ready md ops listed → YieldsQuiet F n P ops C oi v a →
      anyL F n P md ops C m L f (listed.setIfInBounds i true) (a.put oi.dst v) → anyL F n P md ops C m L (f + 1) listed a := by
  intro f
  induction f with
  | zero =>
    intro listed a inv _ hr hy H
    have hun := (mem_ready.1 hr).1
    refine ⟨fun h => (by rw [h] at hr; cases hr), fun j hj => ?_⟩
    have hjn : j < m := by
      rcases Nat.lt_or_ge j m with h | h
      · exact h
      · exact absurd hj (tail_waits hs hc hn inv _ i rfl hin hun j h)
    refine ⟨hjn, ?_⟩
    by_cases hji : j = i
    · subst hji; exact hy.qOpIn hi H
    · have := hdone _ _ H j (ready_mono hj hji)
      omega
  | succ f ih =>
    intro listed a inv hfree hr hy H
    have hun := (mem_ready.1 hr).1
    refine ⟨fun h => (by rw [h] at hr; cases hr), fun j hj => ?_⟩
    have hjn : j < m := by
      rcases Nat.lt_or_ge j m with h | h
      · exact h
      · exact absurd hj (tail_waits hs hc hn inv _ i rfl hin hun j h)
    refine ⟨hjn, ?_⟩
    by_cases hji : j = i
    · subst hji; exact hy.qOpIn hi H
    · have h1 := (H.2 j (ready_mono hj hji)).2
      obtain ⟨hjun, oj, hoj, hall⟩ := mem_ready.1 hj
      have hnot : ∀ e ∈ oj.after, Region.binds md e = true → e.on ≠ i := fun e he hb heq => by
        have h1 := hall e he hb
        rw [heq, getD_both hun] at h1
        cases h1
      have h2 := qOpIn_put hoj (hfree j oj hoj hji hjun hnot) (fun cs b => hsel i oi cs b hi) (fun cs b => hsel j oj cs b hoj) hy h1
      have hfree' : ∀ k ok, ops[k]? = some ok → k ≠ i → (listed.setIfInBounds j true).getD k true = false →
          (∀ e ∈ ok.after, Region.binds md e = true → e.on ≠ i) → oi.apart ops ok = true := fun k ok hk hki hun hno => by
        refine hfree k ok hk hki ?_ hno
        by_cases hjk : j = k
        · subst hjk; exact hjun
        · rw [getD_set_ne true hjk] at hun; exact hun
      refine qOpIn_mono (fun a' h3 => ih (listed.setIfInBounds j true) a' (inv.set hj hjn) hfree' (ready_mono hr (Ne.symm hji)) h3.1 ?_) h2
      rw [Array.setIfInBounds_comm _ _ hji]
      exact h3.2

theorem anyIn_of_seq {Q' : Exit → Act → World → Prop} : ∀ (g k : Nat) (listed : Array Bool) (a : Act) (w : World),
    Region.seqB md ops g k listed = true → wpOpsIn F n P ops Q' (List.range' k g) a w → wpAnyIn F n P md ops Q' g listed a w
  | 0, k, listed, a, w, hB, h => ⟨by simpa [Region.seqB] using hB, by simpa [wpOpsIn] using h⟩
  | g + 1, k, listed, a, w, hB, h => by
    simp only [Region.seqB, Bool.and_eq_true, decide_eq_true_eq] at hB
    refine ⟨fun h1 => (by rw [hB.1] at h1; cases h1), fun i hi => ?_⟩
    rw [hB.1] at hi
    have hik : i = k := by simpa using hi
    subst hik
    rw [List.range'_succ, wpOpsIn_cons] at h
    exact wpOpIn_mono (fun a' w' h' => anyIn_of_seq g (i + 1) _ a' w' hB.2 h') h

theorem anyL_lex {m g : Nat} {Lq : Act → Prop} (hsel : Region.noSelect ops = true) (hs : Region.sinkB md ops m = true) (hc : Region.chainB md ops m = true) (hn : m < ops.size) :
    ∀ (l : List Oper) (k : Nat) (listed : Array Bool) (a : Act), (∀ j, j < l.length → l[j]? = ops[k + j]?) → k + l.length = m → HeadInv md ops m listed →
    Region.lexHead md ops g l.length k listed = true → wpQuietIn F n P ops C Lq l a →
    anyL F n P md ops C m (fun listed' a' => Region.seqB md ops g m listed' = true ∧ Lq a') l.length listed a
  | [], k, listed, a, _, hk, _, hB, h => by
    have : k = m := by simpa using hk
    subst this
    exact ⟨by simpa [Region.lexHead] using hB, h⟩
  | o :: l, k, listed, a, hl, hk, inv, hB, h => by
    have h0 : ops[k]? = some o := by simpa using (hl 0 (by simp)).symm
    simp only [List.length_cons, Region.lexHead, Bool.and_eq_true] at hB
    obtain ⟨⟨hr, hf⟩, hB'⟩ := hB
    have hkn : k < m := by simp only [List.length_cons] at hk; omega
    have hr' : k ∈ Region.ready md ops listed := by simpa using hr
    have hst : qOpIn F n P ops C k (wpQuietIn F n P ops C Lq l) a := by unfold qOpIn; simp only [h0]; exact h
    obtain ⟨v, hy, hK⟩ := yieldsQuiet_of_qOpIn h0 hst
    exact anyL_first h0 (Region.noSelect_spec hsel) hs hc hn hkn (fun listed' a' hL => seqB_ready hL.1) l.length listed a inv (Region.free_spec h0 hf) hr' hy
      (anyL_lex hsel hs hc hn l (k + 1) _ _ (fun j hj => by have := hl (j + 1) (by simp; omega); simpa [Nat.add_assoc, Nat.add_comm 1 j] using this) (by simp only [List.length_cons] at hk; omega) (inv.set hr' hkn) hB' hK)

theorem region_tail (hnd : ∀ (i : Nat) (o : Oper), ops[i]? = some o → noDefer o) {id : Nat} {Q : Exit → Act → World → Prop} {a : Act} {w : World} (m : Nat) (hm : P.follows .mixedOrders = true) (hB : Region.lexTailB .any ops m = true) (hC : C { w with drawn := w.drawn + 1 })
    (h : wpQuietIn F n P ops C (fun a' => ∀ w', C w' → wpOpsIn F n P ops Q (List.range' m (ops.size - m)) a' w') (ops.toList.take m) a) : (Code.region id ops true).wpIn F n P Q a w := by
  simp only [Region.lexTailB, Bool.and_eq_true, decide_eq_true_eq] at hB
  obtain ⟨⟨⟨⟨hsel, hn⟩, hs⟩, hc⟩, hlex⟩ := hB
  have htl : (ops.toList.take m).length = m := by simp; omega
  have inv0 : HeadInv .any ops m (Array.replicate ops.size false) :=
    ⟨by simp, fun j oj _ hl => (by rw [getD_replicate_false] at hl; cases hl), fun t _ ht => getD_in (by simpa using ht) (getD_replicate_false _ _)⟩
  have H := anyL_lex (F := F) (n := n) (C := C) (md := .any) (g := ops.size - m) hsel hs hc hn (ops.toList.take m) 0 _ a (fun j hj => by
    have hj' : j < m := by rw [htl] at hj; exact hj
    simp [hj']) (by simpa using htl) inv0 (by rw [htl]; exact hlex) h
  refine wpIn_region_any hm ?_
  have := anyIn_of_head hnd (Q' := Q) (g := ops.size - m) (fun listed a' w' hw' hL => anyIn_of_seq (md := .any) (Q' := Q) (ops.size - m) m listed a' w' hL.1 (hL.2 w' hw')) _ _ _ _ hC H
  rw [htl, show m + (ops.size - m) = ops.size by omega] at this
  exact this

end
end Go.AI

/- Regions that draw their order: a quiet head, one or more operations in a forced order, and a quiet rest: in whatever fence. -/
namespace Go.AI
open Go.RowKit
section
variable {F : Fence} {n : Nat} {P : Program} {ops : Array Oper} {md : Region.Mode} {C : World → Prop}
theorem tail_waitsQ {n : Nat} {listed : Array Bool} (hs : Region.sinkB md ops n = true) (hc : chainQ md ops n = true) (inv : HeadInv md ops n listed) :
    ∀ (d i : Nat), n - i = d → i < n → listed.getD i true = false → ∀ t, n ≤ t → t ∉ Region.ready md ops listed := by
  intro d
  induction d using Nat.strongRecOn with
  | _ d ih =>
    intro i hd hi hun t ht hr
    obtain ⟨_, ot, hot, hall⟩ := mem_ready.1 hr
    have htlt : t < ops.size := (Array.getElem?_eq_some_iff.1 hot).1
    by_cases htn : t = n
    · subst htn
      have h1 := List.all_eq_true.1 hs i (List.mem_range.2 hi)
      obtain ⟨j, hj, hj2⟩ := List.any_eq_true.1 h1
      simp only [Bool.and_eq_true, decide_eq_true_eq] at hj2
      obtain ⟨oj, hoj, e, he, hb, hon⟩ := Region.waitsFor_spec hj2.2
      have hjle : j ≤ t := by have := List.mem_range.1 hj; omega
      by_cases hjt : j = t
      · subst hjt
        have : oj = ot := Option.some.inj (hoj.symm.trans hot)
        subst this
        have h2 := hall e he hb
        rw [hon, getD_both hun] at h2
        cases h2
      · cases hl : listed.getD j false with
        | true =>
          have h2 := inv.closed j oj hoj hl e he hb
          rw [hon, getD_both hun] at h2
          cases h2
        | false =>
          have hjs : j < listed.size := by rw [inv.size]; omega
          exact ih (t - j) (by omega) j rfl (by omega) (getD_in hjs hl) t (Nat.le_refl _) hr
    · have h1 := List.all_eq_true.1 hc t (List.mem_range.2 htlt)
      simp only [Bool.or_eq_true, decide_eq_true_eq] at h1
      rcases h1 with h1 | h1
      · omega
      · obtain ⟨s, hs1, hs2⟩ := List.any_eq_true.1 h1
        simp only [Bool.and_eq_true, decide_eq_true_eq] at hs2
        have hst := List.mem_range.1 hs1
        obtain ⟨o', ho', e, he, hb, hon⟩ := Region.waitsFor_spec hs2.2
        have : o' = ot := Option.some.inj (ho'.symm.trans hot)
        subst this
        have h2 := hall e he hb
        rw [hon, getD_both (inv.tail s hs2.1 (by omega))] at h2
        cases h2
theorem anyL_firstQ {m i : Nat} {oi : Oper} {v : Value} {L : Array Bool → Act → Prop} (hi : ops[i]? = some oi) (hsel : ∀ (j : Nat) (o : Oper) cs b, ops[j]? = some o → o.op ≠ .select cs b)
    (hs : Region.sinkB md ops m = true) (hc : chainQ md ops m = true) (hin : i < m)
    (hdone : ∀ listed a, L listed a → ∀ j ∈ Region.ready md ops listed, m ≤ j) :
    ∀ (f : Nat) (listed : Array Bool) (a : Act), HeadInv md ops m listed →
      (∀ j oj, ops[j]? = some oj → j ≠ i → listed.getD j true = false → (∀ e ∈ oj.after, Region.binds md e = true → e.on ≠ i) → oi.apart ops oj = true) →
      i ∈ Region.ready md ops listed → YieldsQuiet F n P ops C oi v a →
      anyL F n P md ops C m L f (listed.setIfInBounds i true) (a.put oi.dst v) → anyL F n P md ops C m L (f + 1) listed a := by
  intro f
  induction f with
  | zero =>
    intro listed a inv _ hr hy H
    have hun := (mem_ready.1 hr).1
    refine ⟨fun h => (by rw [h] at hr; cases hr), fun j hj => ?_⟩
    have hjn : j < m := by
      rcases Nat.lt_or_ge j m with h | h
      · exact h
      · exact absurd hj (tail_waitsQ hs hc inv _ i rfl hin hun j h)
    refine ⟨hjn, ?_⟩
    by_cases hji : j = i
    · subst hji; exact hy.qOpIn hi H
    · have := hdone _ _ H j (ready_mono hj hji)
      omega
  | succ f ih =>
    intro listed a inv hfree hr hy H
    have hun := (mem_ready.1 hr).1
    refine ⟨fun h => (by rw [h] at hr; cases hr), fun j hj => ?_⟩
    have hjn : j < m := by
      rcases Nat.lt_or_ge j m with h | h
      · exact h
      · exact absurd hj (tail_waitsQ hs hc inv _ i rfl hin hun j h)
    refine ⟨hjn, ?_⟩
    by_cases hji : j = i
    · subst hji; exact hy.qOpIn hi H
    · have h1 := (H.2 j (ready_mono hj hji)).2
      obtain ⟨hjun, oj, hoj, hall⟩ := mem_ready.1 hj
      have hnot : ∀ e ∈ oj.after, Region.binds md e = true → e.on ≠ i := fun e he hb heq => by
        have h1 := hall e he hb
        rw [heq, getD_both hun] at h1
        cases h1
      have h2 := qOpIn_put hoj (hfree j oj hoj hji hjun hnot) (fun cs b => hsel i oi cs b hi) (fun cs b => hsel j oj cs b hoj) hy h1
      have hfree' : ∀ k ok, ops[k]? = some ok → k ≠ i → (listed.setIfInBounds j true).getD k true = false →
          (∀ e ∈ ok.after, Region.binds md e = true → e.on ≠ i) → oi.apart ops ok = true := fun k ok hk hki hun hno => by
        refine hfree k ok hk hki ?_ hno
        by_cases hjk : j = k
        · subst hjk; exact hjun
        · rw [getD_set_ne true hjk] at hun; exact hun
      refine qOpIn_mono (fun a' h3 => ih (listed.setIfInBounds j true) a' (inv.set hj hjn) hfree' (ready_mono hr (Ne.symm hji)) h3.1 ?_) h2
      rw [Array.setIfInBounds_comm _ _ hji]
      exact h3.2
theorem midF_ready {p k : Nat} {listed : Array Bool} (h : midF md ops (p + 1) k listed = true) : ∀ j ∈ Region.ready md ops listed, k ≤ j := by
  intro j hj
  simp only [midF, Bool.and_eq_true, decide_eq_true_eq] at h
  rw [h.1] at hj
  have : j = k := by simpa using hj
  omega
/-- Some operations one after the other; then R. -/
def wpMid (F : Fence) (n : Nat) (P : Program) (ops : Array Oper) (Q : Exit → Act → World → Prop) (R : Act → World → Prop) : List Nat → Act → World → Prop
  | [], a, w => R a w
  | i :: is, a, w => wpOpIn F n P ops Q i (wpMid F n P ops Q R is) a w
/-- The rest, quietly, from where the world stands. -/
def restR (F : Fence) (n : Nat) (P : Program) (ops : Array Oper) (Q : Exit → Act → World → Prop) (k : Nat) (a : Act) (w : World) : Prop :=
  ∃ C : World → Prop, C w ∧ wpQuietIn F n P ops C (fun a' => ∀ w', C w' → Q .normal a' w') (ops.toList.drop k) a
theorem anyIn_of_mid (hnd : ∀ (i : Nat) (o : Oper), ops[i]? = some o → noDefer o) (hsel : Region.noSelect ops = true) {Q' : Exit → Act → World → Prop} : ∀ (p k : Nat) (listed : Array Bool) (a : Act) (w : World), k + p ≤ ops.size →
    midF md ops p k listed = true → wpMid F n P ops Q' (restR F n P ops Q' (k + p)) (List.range' k p) a w → wpAnyIn F n P md ops Q' (ops.size - k) listed a w
  | 0, k, listed, a, w, hk, hB, h => by
    obtain ⟨C, hC, hq⟩ := h
    have hlen : (ops.toList.drop (k + 0)).length = ops.size - k := by simp
    have h2 := wpAnyQIn_lex (F := F) (n := n) (C := C) (md := md) hsel (ops.toList.drop (k + 0)) k listed a (fun j => by simp [List.getElem?_drop]) (by rw [hlen]; exact hB) hq
    rw [hlen] at h2
    exact wpAnyIn_of_quiet' hnd (Q := fun a' => ∀ w', C w' → Q' .normal a' w') (fun _ w' hw' h => h w' hw') _ _ _ _ hC h2
  | p + 1, k, listed, a, w, hk, hB, h => by
    simp only [midF, Bool.and_eq_true, decide_eq_true_eq] at hB
    rw [show ops.size - k = (ops.size - (k + 1)) + 1 by omega]
    refine ⟨fun h1 => (by rw [hB.1] at h1; cases h1), fun i hi => ?_⟩
    rw [hB.1] at hi
    have hik : i = k := by simpa using hi
    subst hik
    rw [List.range'_succ] at h
    refine wpOpIn_mono (fun a' w' h' => ?_) h
    rw [show i + (p + 1) = i + 1 + p by omega] at h'
    exact anyIn_of_mid hnd hsel p (i + 1) _ a' w' (by omega) hB.2 h'
theorem anyL_mid {m p : Nat} {Lq : Act → Prop} (hsel : Region.noSelect ops = true) (hs : Region.sinkB md ops m = true) (hc : chainQ md ops m = true) :
    ∀ (l : List Oper) (k : Nat) (listed : Array Bool) (a : Act), (∀ j, j < l.length → l[j]? = ops[k + j]?) → k + l.length = m → HeadInv md ops m listed →
    midHead md ops (p + 1) l.length k listed = true → wpQuietIn F n P ops C Lq l a →
    anyL F n P md ops C m (fun listed' a' => midF md ops (p + 1) m listed' = true ∧ Lq a') l.length listed a
  | [], k, listed, a, _, hk, _, hB, h => by
    have : k = m := by simpa using hk
    subst this
    exact ⟨by simpa [midHead] using hB, h⟩
  | o :: l, k, listed, a, hl, hk, inv, hB, h => by
    have h0 : ops[k]? = some o := by simpa using (hl 0 (by simp)).symm
    simp only [List.length_cons, midHead, Bool.and_eq_true] at hB
    obtain ⟨⟨hr, hf⟩, hB'⟩ := hB
    have hkn : k < m := by simp only [List.length_cons] at hk; omega
    have hr' : k ∈ Region.ready md ops listed := by simpa using hr
    have hst : qOpIn F n P ops C k (wpQuietIn F n P ops C Lq l) a := by unfold qOpIn; simp only [h0]; exact h
    obtain ⟨v, hy, hK⟩ := yieldsQuiet_of_qOpIn h0 hst
    exact anyL_firstQ h0 (Region.noSelect_spec hsel) hs hc hkn (fun listed' a' hL => midF_ready hL.1) l.length listed a inv (Region.free_spec h0 hf) hr' hy
      (anyL_mid hsel hs hc l (k + 1) _ _ (fun j hj => by have := hl (j + 1) (by simp; omega); simpa [Nat.add_assoc, Nat.add_comm 1 j] using this) (by simp only [List.length_cons] at hk; omega) (inv.set hr' hkn) hB' hK)
theorem region_mid (hnd : ∀ (i : Nat) (o : Oper), ops[i]? = some o → noDefer o) {id : Nat} {Q : Exit → Act → World → Prop} {a : Act} {w : World} (m p : Nat) (hm : P.follows .mixedOrders = true) (hB : midB .any ops m p = true) (hC : C { w with drawn := w.drawn + 1 })
    (h : wpQuietIn F n P ops C (fun a' => ∀ w', C w' → wpMid F n P ops Q (restR F n P ops Q (m + (p + 1))) (List.range' m (p + 1)) a' w') (ops.toList.take m) a) : (Code.region id ops true).wpIn F n P Q a w := by
  simp only [midB, Bool.and_eq_true, decide_eq_true_eq] at hB
  obtain ⟨⟨⟨⟨hsel, hn⟩, hs⟩, hc⟩, hlex⟩ := hB
  have htl : (ops.toList.take m).length = m := by simp; omega
  have inv0 : HeadInv .any ops m (Array.replicate ops.size false) :=
    ⟨by simp, fun j oj _ hl => (by rw [getD_replicate_false] at hl; cases hl), fun t _ ht => getD_in (by simpa using ht) (getD_replicate_false _ _)⟩
  have H := anyL_mid (F := F) (n := n) (C := C) (md := .any) (p := p) hsel hs hc (ops.toList.take m) 0 _ a (fun j hj => by
    have hj' : j < m := by rw [htl] at hj; exact hj
    simp [hj']) (by simpa using htl) inv0 (by rw [htl]; exact hlex) h
  refine wpIn_region_any hm ?_
  have := anyIn_of_head hnd (Q' := Q) (g := ops.size - m) (fun listed a' w' hw' hL => anyIn_of_mid (md := .any) (Q' := Q) hnd hsel (p + 1) m listed a' w' hn hL.1 (hL.2 w' hw')) _ _ _ _ hC H
  rw [htl, show m + (ops.size - m) = ops.size by omega] at this
  exact this
end
end Go.AI

/- Regions that draw their order, and begin with copies of slots for which not all else waits. -/
namespace Go.AI
open Go.RowKit
section
variable {F : Fence} {n : Nat} {P : Program} {ops : Array Oper} {md : Region.Mode}
/-- Only a normal end. -/
def onlyN (Q : Exit → Act → World → Prop) : Exit → Act → World → Prop
  | .normal, a, w => Q .normal a w
  | _, _, _ => False
theorem onlyN_letsOut {Q : Exit → Act → World → Prop} (h : LetsOut (onlyN Q)) : False := by
  obtain ⟨a, w, h⟩ := h; exact h
theorem onlyN_mono {Q : Exit → Act → World → Prop} : ∀ e a w, onlyN Q e a w → Q e a w
  | .normal, _, _, h => h
  | .ret, _, _, h => h.elim
  | .exit _, _, _, h => h.elim
  | .goto _, _, _, h => h.elim
  | .panic _, _, _, h => h.elim
  | .outgrown, _, _, h => h.elim
/-- One operation, apart from another one that yields the same in each world: whether that one's value is in its slot makes no difference. -/
theorem wpOpIn_put {Q : Exit → Act → World → Prop} {j : Nat} {oi oj : Oper} {v : Value} (hj : ops[j]? = some oj) (hnd : noDefer oj) (hap : oi.apart ops oj = true)
    (hsi : ∀ cs b, oi.op ≠ .select cs b) (hsj : ∀ cs b, oj.op ≠ .select cs b) {K : Act → World → Prop} {a : Act} {w : World}
    (hy : YieldsQuiet F n P ops (fun _ => True) oi v a) (h : wpOpIn F n P ops (onlyN Q) j K (a.put oi.dst v) w) :
    wpOpIn F n P ops (onlyN Q) j (fun a' w' => YieldsQuiet F n P ops (fun _ => True) oi v a' ∧ K (a'.put oi.dst v) w') a w := by
  obtain ⟨h1, h2, h3⟩ := Oper.apart_spec hap
  have keep : ∀ (a : Act), YieldsQuiet F n P ops (fun _ => True) oi v a → ∀ u, YieldsQuiet F n P ops (fun _ => True) oi v (a.put oj.dst u) := fun a hy u =>
    hy.of_same (execOp_put oi hsi a oj.dst u h3) (wanted_put oi a oj.dst u h3) (fun w => about_put oi w a oj.dst u h3)
  have go : ∀ u w', K ((a.put oi.dst v).put oj.dst u) w' → YieldsQuiet F n P ops (fun _ => True) oi v (a.put oj.dst u) ∧ K ((a.put oj.dst u).put oi.dst v) w' := fun u w' hk =>
    ⟨keep a hy u, by rw [← Act.put_comm a v u h2]; exact hk⟩
  unfold wpOpIn at *
  simp only [hj] at *
  rw [wanted_put oj a oi.dst v h1] at h
  split
  · rename_i hw
    simp only [hw, if_true] at h
    unfold Oper.wpIn at *
    refine ⟨fun f hf => h.1 f (by rw [about_put oj w a oi.dst v h1]; exact hf), ?_⟩
    have h := h.2
    rw [semAt_of hnd] at h ⊢
    rw [execOp_put oj hsj a oi.dst v h1] at h
    generalize (execOp a.eval oj).run P w = r at *
    cases r with
    | ok x w' =>
      cases x with
      | value u => exact go u w' h
      | skip => exact go undef w' h
      | defer d =>
        simp only [Oper.uponIn] at h ⊢
        rw [Act.put_defers] at h
        refine ⟨?_, ?_⟩
        · exact (hy.of_same (a' := { a with defers := d :: a.defers }) rfl rfl (fun _ => rfl)).of_same (execOp_put oi hsi _ oj.dst undef h3) (wanted_put oi _ oj.dst undef h3) (fun w => about_put oi w _ oj.dst undef h3)
        · rw [← Act.put_comm _ v undef h2]; exact h
      | enter f args =>
        simp only [Oper.uponIn] at h ⊢
        exact ⟨h.1, CallsIn.mono h.2 fun e w'' he => by
          cases e with
          | returned u => exact go u w'' he
          | panicked c => exact he.elim
          | outgrown => exact (onlyN_letsOut he).elim⟩
      | row rw' args =>
        simp only [Oper.uponIn] at h ⊢
        exact ⟨h.1, RowsIn.mono h.2 fun u w'' he => go u w'' he⟩
      | round l f tmps assign body =>
        simp only [Oper.uponIn] at h ⊢
        exact ⟨h.1, RoundIn.mono h.2 fun e w'' he => by
          cases e with
          | returned u => exact go u w'' he
          | panicked c => exact he.elim
          | outgrown => exact (onlyN_letsOut he).elim⟩
      | _ => exact h
    | halt x w' => cases x <;> exact h
  · rename_i hw
    simp only [hw] at h
    exact ⟨fun f hf => h.1 f (by rw [about_put oj w a oi.dst v h1]; exact hf), go undef w h.2⟩
theorem YieldsQuiet.wpOpIn {Q : Exit → Act → World → Prop} {C : World → Prop} {i : Nat} {o : Oper} {v : Value} {a : Act} {w : World} (hnd : noDefer o) (hi : ops[i]? = some o) (hy : YieldsQuiet F n P ops (fun w' => w' = w) o v a) {K : Act → World → Prop} (h : K (a.put o.dst v) w) : wpOpIn F n P ops Q i K a w := by
  have h1 := hy.qOpIn hi (K := fun a' => K a' w) h
  unfold qOpIn at h1
  unfold Go.wpOpIn
  simp only [hi] at h1 ⊢
  obtain ⟨ha, hh⟩ := h1
  split
  · rename_i hw; simp only [hw, if_true] at hh; exact wpIn_of_quiet' (C := fun w' => w' = w) hnd rfl (fun a' w' hw' hk => by subst hw'; exact hk) ha hh
  · rename_i hw; simp only [hw] at hh; exact ⟨ha w rfl, hh⟩
/-- What yields the same in each world may be taken first. -/
theorem wpAnyIn_firstT {Q : Exit → Act → World → Prop} {i : Nat} {oi : Oper} {v : Value} (hi : ops[i]? = some oi) (hnd : ∀ (i : Nat) (o : Oper), ops[i]? = some o → noDefer o) (hsel : ∀ (j : Nat) (o : Oper) cs b, ops[j]? = some o → o.op ≠ .select cs b)
    (hyw : ∀ (a : Act) (w : World), YieldsQuiet F n P ops (fun _ => True) oi v a → YieldsQuiet F n P ops (fun w' => w' = w) oi v a) :
    ∀ (fuel : Nat) (listed : Array Bool) (a : Act) (w : World),
      (∀ j oj, ops[j]? = some oj → j ≠ i → listed.getD j true = false → (∀ e ∈ oj.after, Region.binds md e = true → e.on ≠ i) → oi.apart ops oj = true) →
      i ∈ Region.ready md ops listed → YieldsQuiet F n P ops (fun _ => True) oi v a →
      wpAnyIn F n P md ops (onlyN Q) fuel (listed.setIfInBounds i true) (a.put oi.dst v) w → wpAnyIn F n P md ops (onlyN Q) (fuel + 1) listed a w := by
  intro fuel
  induction fuel with
  | zero =>
    intro listed a w _ hr hy H
    refine ⟨fun h => (by rw [h] at hr; cases hr), fun j hj => ?_⟩
    by_cases hji : j = i
    · subst hji; exact YieldsQuiet.wpOpIn (C := fun _ => True) (hnd j oi hi) hi (hyw a w hy) H
    · have := ready_mono hj hji
      rw [H.1] at this
      cases this
  | succ fuel ih =>
    intro listed a w hfree hr hy H
    refine ⟨fun h => (by rw [h] at hr; cases hr), fun j hj => ?_⟩
    by_cases hji : j = i
    · subst hji; exact YieldsQuiet.wpOpIn (C := fun _ => True) (hnd j oi hi) hi (hyw a w hy) H
    · have h1 := H.2 j (ready_mono hj hji)
      obtain ⟨hjun, oj, hoj, hall⟩ := mem_ready.1 hj
      have hnot : ∀ e ∈ oj.after, Region.binds md e = true → e.on ≠ i := fun e he hb heq => by
        have h1 := hall e he hb
        have h0 := (mem_ready.1 hr).1
        rw [heq, getD_both h0] at h1
        cases h1
      have h2 := wpOpIn_put hoj (hnd j oj hoj) (hfree j oj hoj hji hjun hnot) (fun cs b => hsel i oi cs b hi) (fun cs b => hsel j oj cs b hoj) hy h1
      have hfree' : ∀ k ok, ops[k]? = some ok → k ≠ i → (listed.setIfInBounds j true).getD k true = false →
          (∀ e ∈ ok.after, Region.binds md e = true → e.on ≠ i) → oi.apart ops ok = true := fun k ok hk hki hun hno => by
        refine hfree k ok hk hki ?_ hno
        by_cases hjk : j = k
        · subst hjk; exact hjun
        · rw [getD_set_ne true hjk] at hun; exact hun
      refine wpOpIn_mono (fun a' w' h3 => ih (listed.setIfInBounds j true) a' w' hfree' (ready_mono hr (Ne.symm hji)) h3.1 ?_) h2
      rw [Array.setIfInBounds_comm _ _ hji]
      exact h3.2
theorem move_yields {C : World → Prop} {o : Oper} {x : Operand} (ho : o.op = .move x) (hg : o.guard = none) (a : Act) : YieldsQuiet F n P ops C o (a.eval x) a := by
  refine ⟨fun w _ f hf => ?_, .inl ⟨by simp [Region.wanted, hg], fun w _ => ?_⟩⟩
  · simp [Oper.about, ho] at hf
  · unfold Oper.quietAtIn
    simp only [execOp, ho]
    exact ⟨rfl, rfl⟩
theorem move_of_quiet {C : World → Prop} {o : Oper} {x : Operand} {v : Value} {a : Act} {w : World} (ho : o.op = .move x) (h : o.quietAtIn F n P a C w v) : v = a.eval x := by
  unfold Oper.quietAtIn at h
  simp only [execOp, ho] at h
  exact h.2.symm
theorem tail_waitsP {p n : Nat} {listed : Array Bool} (hs : sinkP md ops p n = true) (hc : Region.chainB md ops n = true) (hn : n < ops.size) (inv : HeadInv md ops n listed) :
    ∀ (d i : Nat), n - i = d → p ≤ i → i < n → listed.getD i true = false → ∀ t, n ≤ t → t ∉ Region.ready md ops listed := by
  intro d
  induction d using Nat.strongRecOn with
  | _ d ih =>
    intro i hd hpi hi hun t ht hr
    obtain ⟨_, ot, hot, hall⟩ := mem_ready.1 hr
    have htlt : t < ops.size := (Array.getElem?_eq_some_iff.1 hot).1
    by_cases htn : t = n
    · subst htn
      have h1 := List.all_eq_true.1 hs i (List.mem_range.2 hi)
      simp only [Bool.or_eq_true, decide_eq_true_eq] at h1
      have h1 := h1.resolve_left (by omega)
      obtain ⟨j, hj, hj2⟩ := List.any_eq_true.1 h1
      simp only [Bool.and_eq_true, decide_eq_true_eq] at hj2
      obtain ⟨oj, hoj, e, he, hb, hon⟩ := Region.waitsFor_spec hj2.2
      have hjle : j ≤ t := by have := List.mem_range.1 hj; omega
      by_cases hjt : j = t
      · subst hjt
        have : oj = ot := Option.some.inj (hoj.symm.trans hot)
        subst this
        have h2 := hall e he hb
        rw [hon, getD_both hun] at h2
        cases h2
      · cases hl : listed.getD j false with
        | true =>
          have h2 := inv.closed j oj hoj hl e he hb
          rw [hon, getD_both hun] at h2
          cases h2
        | false =>
          have hjs : j < listed.size := by rw [inv.size]; omega
          exact ih (t - j) (by omega) j rfl (by omega) (by omega) (getD_in hjs hl) t (Nat.le_refl _) hr
    · have h1 := List.all_eq_true.1 hc t (List.mem_range.2 htlt)
      simp only [Bool.or_eq_true, decide_eq_true_eq] at h1
      rcases h1 with h1 | h1
      · omega
      · obtain ⟨o', ho', e, he, hb, hon⟩ := Region.waitsFor_spec h1
        have : o' = ot := Option.some.inj (ho'.symm.trans hot)
        subst this
        have h2 := hall e he hb
        rw [hon, getD_both (inv.tail (t - 1) (by omega) (by omega))] at h2
        cases h2
theorem anyL_firstP {C : World → Prop} {p m i : Nat} {oi : Oper} {v : Value} {L : Array Bool → Act → Prop} (hi : ops[i]? = some oi) (hsel : ∀ (j : Nat) (o : Oper) cs b, ops[j]? = some o → o.op ≠ .select cs b)
    (hs : sinkP md ops p m = true) (hc : Region.chainB md ops m = true) (hn : m < ops.size) (hpi : p ≤ i) (hin : i < m)
    (hdone : ∀ listed a, L listed a → ∀ j ∈ Region.ready md ops listed, m ≤ j) :
    ∀ (f : Nat) (listed : Array Bool) (a : Act), HeadInv md ops m listed →
      (∀ j oj, ops[j]? = some oj → j ≠ i → listed.getD j true = false → (∀ e ∈ oj.after, Region.binds md e = true → e.on ≠ i) → oi.apart ops oj = true) →
      i ∈ Region.ready md ops listed → YieldsQuiet F n P ops C oi v a →
      anyL F n P md ops C m L f (listed.setIfInBounds i true) (a.put oi.dst v) → anyL F n P md ops C m L (f + 1) listed a := by
  intro f
  induction f with
  | zero =>
    intro listed a inv _ hr hy H
    have hun := (mem_ready.1 hr).1
    refine ⟨fun h => (by rw [h] at hr; cases hr), fun j hj => ?_⟩
    have hjn : j < m := by
      rcases Nat.lt_or_ge j m with h | h
      · exact h
      · exact absurd hj (tail_waitsP hs hc hn inv _ i rfl hpi hin hun j h)
    refine ⟨hjn, ?_⟩
    by_cases hji : j = i
    · subst hji; exact hy.qOpIn hi H
    · have := hdone _ _ H j (ready_mono hj hji)
      omega
  | succ f ih =>
    intro listed a inv hfree hr hy H
    have hun := (mem_ready.1 hr).1
    refine ⟨fun h => (by rw [h] at hr; cases hr), fun j hj => ?_⟩
    have hjn : j < m := by
      rcases Nat.lt_or_ge j m with h | h
      · exact h
      · exact absurd hj (tail_waitsP hs hc hn inv _ i rfl hpi hin hun j h)
    refine ⟨hjn, ?_⟩
    by_cases hji : j = i
    · subst hji; exact hy.qOpIn hi H
    · have h1 := (H.2 j (ready_mono hj hji)).2
      obtain ⟨hjun, oj, hoj, hall⟩ := mem_ready.1 hj
      have hnot : ∀ e ∈ oj.after, Region.binds md e = true → e.on ≠ i := fun e he hb heq => by
        have h1 := hall e he hb
        rw [heq, getD_both hun] at h1
        cases h1
      have h2 := qOpIn_put hoj (hfree j oj hoj hji hjun hnot) (fun cs b => hsel i oi cs b hi) (fun cs b => hsel j oj cs b hoj) hy h1
      have hfree' : ∀ k ok, ops[k]? = some ok → k ≠ i → (listed.setIfInBounds j true).getD k true = false →
          (∀ e ∈ ok.after, Region.binds md e = true → e.on ≠ i) → oi.apart ops ok = true := fun k ok hk hki hun hno => by
        refine hfree k ok hk hki ?_ hno
        by_cases hjk : j = k
        · subst hjk; exact hjun
        · rw [getD_set_ne true hjk] at hun; exact hun
      refine qOpIn_mono (fun a' h3 => ih (listed.setIfInBounds j true) a' (inv.set hj hjn) hfree' (ready_mono hr (Ne.symm hji)) h3.1 ?_) h2
      rw [Array.setIfInBounds_comm _ _ hji]
      exact h3.2
theorem anyL_lexP {C : World → Prop} {p m g : Nat} {Lq : Act → Prop} (hsel : Region.noSelect ops = true) (hs : sinkP md ops p m = true) (hc : Region.chainB md ops m = true) (hn : m < ops.size) :
    ∀ (l : List Oper) (k : Nat) (listed : Array Bool) (a : Act), (∀ j, j < l.length → l[j]? = ops[k + j]?) → p ≤ k → k + l.length = m → HeadInv md ops m listed →
    Region.lexHead md ops g l.length k listed = true → wpQuietIn F n P ops C Lq l a →
    anyL F n P md ops C m (fun listed' a' => Region.seqB md ops g m listed' = true ∧ Lq a') l.length listed a
  | [], k, listed, a, _, _, hk, _, hB, h => by
    have : k = m := by simpa using hk
    subst this
    exact ⟨by simpa [Region.lexHead] using hB, h⟩
  | o :: l, k, listed, a, hl, hpk, hk, inv, hB, h => by
    have h0 : ops[k]? = some o := by simpa using (hl 0 (by simp)).symm
    simp only [List.length_cons, Region.lexHead, Bool.and_eq_true] at hB
    obtain ⟨⟨hr, hf⟩, hB'⟩ := hB
    have hkn : k < m := by simp only [List.length_cons] at hk; omega
    have hr' : k ∈ Region.ready md ops listed := by simpa using hr
    have hst : qOpIn F n P ops C k (wpQuietIn F n P ops C Lq l) a := by unfold qOpIn; simp only [h0]; exact h
    obtain ⟨v, hy, hK⟩ := yieldsQuiet_of_qOpIn h0 hst
    exact anyL_firstP h0 (Region.noSelect_spec hsel) hs hc hn hpk hkn (fun listed' a' hL => seqB_ready hL.1) l.length listed a inv (Region.free_spec h0 hf) hr' hy
      (anyL_lexP hsel hs hc hn l (k + 1) _ _ (fun j hj => by have := hl (j + 1) (by simp; omega); simpa [Nat.add_assoc, Nat.add_comm 1 j] using this) (by omega) (by simp only [List.length_cons] at hk; omega) (inv.set hr' hkn) hB' hK)
theorem late_phase (hnd : ∀ (i : Nat) (o : Oper), ops[i]? = some o → noDefer o) {C : World → Prop} {Q : Exit → Act → World → Prop} {p m : Nat} (hsel : Region.noSelect ops = true) (hs : sinkP md ops p m = true) (hc : Region.chainB md ops m = true) (hn : m < ops.size) (hpm : p ≤ m) :
    ∀ (l : List Oper) (k : Nat) (listed : Array Bool) (a : Act) (w : World), (∀ j, j < l.length → l[j]? = ops[k + j]?) → k + l.length = p → HeadInv md ops m listed → C w → (∀ o ∈ l, isMove o = true) →
    lateHead md ops m l.length k listed = true → wpQuietIn F n P ops C (fun a' => ∀ w', C w' → wpOpsIn F n P ops (onlyN Q) (List.range' m (ops.size - m)) a' w') (l ++ (ops.toList.take m).drop p) a →
    wpAnyIn F n P md ops (onlyN Q) (ops.size - k) listed a w
  | [], k, listed, a, w, _, hk, inv, hw, _, hB, h => by
    have : k = p := by simpa using hk
    subst this
    have hlen : ((ops.toList.take m).drop k).length = m - k := by simp; omega
    simp only [List.length_nil, lateHead] at hB
    have H := anyL_lexP (F := F) (n := n) (C := C) (md := md) (g := ops.size - m) hsel hs hc hn ((ops.toList.take m).drop k) k listed a (fun j hj => by
      rw [hlen] at hj
      rw [List.getElem?_drop, List.getElem?_take_of_lt (by omega)]; simp) (Nat.le_refl _) (by rw [hlen]; omega) inv (by rw [hlen]; exact hB) (by simpa using h)
    have := anyIn_of_head hnd (Q' := onlyN Q) (g := ops.size - m) (fun listed a' w' hw' hL => anyIn_of_seq (md := md) (Q' := onlyN Q) (ops.size - m) m listed a' w' hL.1 (hL.2 w' hw')) _ _ _ _ hw H
    rw [hlen, show m - k + (ops.size - m) = ops.size - k by omega] at this
    exact this
  | o :: l, k, listed, a, w, hl, hk, inv, hw, hmv, hB, h => by
    have h0 : ops[k]? = some o := by simpa using (hl 0 (by simp)).symm
    have hkp : k < p := by simp only [List.length_cons] at hk; omega
    simp only [List.length_cons, lateHead, Bool.and_eq_true] at hB
    obtain ⟨⟨hr, hf⟩, hB'⟩ := hB
    have hr' : k ∈ Region.ready md ops listed := by simpa using hr
    obtain ⟨x, ho, hg⟩ : ∃ x, o.op = .move x ∧ o.guard = none := by
      have := hmv o (by simp)
      unfold isMove at this
      split at this
      · exact ⟨_, by assumption, by assumption⟩
      · cases this
    rw [List.cons_append, wpQuietIn] at h
    have hwant : Region.wanted o (yielded ops a.tmps) = true := by simp [Region.wanted, hg]
    rw [if_pos hwant] at h
    obtain ⟨v, h1, h2⟩ := h.2
    have hv := move_of_quiet ho (h1 w hw)
    subst hv
    rw [show ops.size - k = (ops.size - (k + 1)) + 1 by omega]
    refine wpAnyIn_firstT h0 hnd (Region.noSelect_spec hsel) (fun a' w' hy => ?_) _ listed a w (Region.free_spec h0 hf) hr' (move_yields ho hg a) ?_
    · have := hy.2
      rcases this with ⟨_, h3⟩ | ⟨h3, _⟩
      · rw [move_of_quiet ho (h3 w' trivial)]; exact move_yields ho hg a'
      · simp [Region.wanted, hg] at h3
    · exact late_phase hnd hsel hs hc hn hpm l (k + 1) _ _ w (fun j hj => by have := hl (j + 1) (by simp; omega); simpa [Nat.add_assoc, Nat.add_comm 1 j] using this) (by simp only [List.length_cons] at hk; omega) (inv.set hr' (by omega)) hw (fun o' ho' => hmv o' (by simp [ho'])) hB' h2
theorem region_late (hnd : ∀ (i : Nat) (o : Oper), ops[i]? = some o → noDefer o) {C : World → Prop} {id : Nat} {Q : Exit → Act → World → Prop} {a : Act} {w : World} (p m : Nat) (hm : P.follows .mixedOrders = true) (hB : lateB .any ops p m = true) (hC : C { w with drawn := w.drawn + 1 })
    (h : wpQuietIn F n P ops C (fun a' => ∀ w', C w' → wpOpsIn F n P ops (onlyN Q) (List.range' m (ops.size - m)) a' w') (ops.toList.take m) a) : (Code.region id ops true).wpIn F n P Q a w := by
  simp only [lateB, Bool.and_eq_true, decide_eq_true_eq] at hB
  obtain ⟨⟨⟨⟨⟨⟨hsel, hn⟩, hp⟩, hs⟩, hc⟩, hmv⟩, hlate⟩ := hB
  have inv0 : HeadInv .any ops m (Array.replicate ops.size false) :=
    ⟨by simp, fun j oj _ hl => (by rw [getD_replicate_false] at hl; cases hl), fun t _ ht => getD_in (by simpa using ht) (getD_replicate_false _ _)⟩
  have hlen : (ops.toList.take p).length = p := by simp; omega
  refine wpIn_mono (wpIn_region_any (Q := onlyN Q) hm ?_) onlyN_mono
  have := late_phase (F := F) (n := n) (P := P) (md := .any) (Q := Q) hnd hsel hs hc hn hp (ops.toList.take p) 0 _ a _ (fun j hj => by
    rw [hlen] at hj
    rw [List.getElem?_take_of_lt hj]; simp) (by rw [hlen]; omega) inv0 hC (fun o ho => List.all_eq_true.1 hmv o ho) (by rw [hlen]; exact hlate) (by
      have e : ops.toList.take p ++ (ops.toList.take m).drop p = ops.toList.take m := by
        have := List.take_append_drop p (ops.toList.take m)
        rwa [List.take_take, Nat.min_eq_left hp] at this
      rw [e]; exact h)
  simpa using this
/-- Whatever order is picked from here on; nothing that was there before an operation is written by it. -/
def wpAnyB (F : Fence) (n : Nat) (P : Program) (md : Region.Mode) (ops : Array Oper) (Q : Exit → Act → World → Prop) : Nat → Array Bool → Act → World → Prop
  | 0, listed, a, w => Region.ready md ops listed = [] ∧ Q .normal a w
  | f + 1, listed, a, w => (Region.ready md ops listed = [] → Q .normal a w) ∧ ∀ i ∈ Region.ready md ops listed, wpOpIn F n P ops Q i (fun a' w' => Below w.heap.size w w' ∧ wpAnyB F n P md ops Q f (listed.setIfInBounds i true) a' w') a w
theorem wpAnyB_any {Q : Exit → Act → World → Prop} : ∀ (f : Nat) (listed : Array Bool) (a : Act) (w : World), wpAnyB F n P md ops Q f listed a w → wpAnyIn F n P md ops Q f listed a w
  | 0, _, _, _, h => h
  | f + 1, _, _, _, h => ⟨h.1, fun i hi => wpOpIn_mono (fun a' w' hk => wpAnyB_any f _ a' w' hk.2) (h.2 i hi)⟩
/-- An operation that yields a value in each world behind this one, and leaves it. -/
def Yields (F : Fence) (n : Nat) (P : Program) (ops : Array Oper) (o : Oper) (v : Value) (a : Act) (w : World) : Prop := ∀ w', Below w.heap.size w w' → YieldsQuiet F n P ops (fun x => x = w') o v a
theorem Yields.later {o : Oper} {v : Value} {a : Act} {w w' : World} (h : Yields F n P ops o v a w) (hb : Below w.heap.size w w') : Yields F n P ops o v a w' := fun w2 h2 => h w2 (hb.trans (h2.mono hb.size))
theorem wpOpIn_putB {Q : Exit → Act → World → Prop} {j : Nat} {oi oj : Oper} {v : Value} (hj : ops[j]? = some oj) (hnd : noDefer oj) (hap : oi.apart ops oj = true)
    (hsi : ∀ cs b, oi.op ≠ .select cs b) (hsj : ∀ cs b, oj.op ≠ .select cs b) {K : Act → World → Prop} {a : Act} {w : World}
    (hy : Yields F n P ops oi v a w) (h : wpOpIn F n P ops (onlyN Q) j (fun a' w' => Below w.heap.size w w' ∧ K a' w') (a.put oi.dst v) w) :
    wpOpIn F n P ops (onlyN Q) j (fun a' w' => Below w.heap.size w w' ∧ Yields F n P ops oi v a' w' ∧ K (a'.put oi.dst v) w') a w := by
  obtain ⟨h1, h2, h3⟩ := Oper.apart_spec hap
  have keep : ∀ (a : Act), Yields F n P ops oi v a w → ∀ u, Yields F n P ops oi v (a.put oj.dst u) w := fun a hy u w' hb =>
    (hy w' hb).of_same (execOp_put oi hsi a oj.dst u h3) (wanted_put oi a oj.dst u h3) (fun w => about_put oi w a oj.dst u h3)
  have go : ∀ u w', (Below w.heap.size w w' ∧ K ((a.put oi.dst v).put oj.dst u) w') → Below w.heap.size w w' ∧ Yields F n P ops oi v (a.put oj.dst u) w' ∧ K ((a.put oj.dst u).put oi.dst v) w' := fun u w' hk =>
    ⟨hk.1, (keep a hy u).later hk.1, by rw [← Act.put_comm a v u h2]; exact hk.2⟩
  unfold wpOpIn at *
  simp only [hj] at *
  rw [wanted_put oj a oi.dst v h1] at h
  split
  · rename_i hw
    simp only [hw, if_true] at h
    unfold Oper.wpIn at *
    refine ⟨fun f hf => h.1 f (by rw [about_put oj w a oi.dst v h1]; exact hf), ?_⟩
    have h := h.2
    rw [semAt_of hnd] at h ⊢
    rw [execOp_put oj hsj a oi.dst v h1] at h
    generalize (execOp a.eval oj).run P w = r at *
    cases r with
    | ok x w' =>
      cases x with
      | value u => exact go u w' h
      | skip => exact go undef w' h
      | defer d =>
        simp only [Oper.uponIn] at h ⊢
        rw [Act.put_defers] at h
        refine ⟨h.1, ?_, ?_⟩
        · have hy' := hy.later h.1
          exact fun w2 hb => ((hy' w2 hb).of_same (a' := { a with defers := d :: a.defers }) rfl rfl (fun _ => rfl)).of_same (execOp_put oi hsi _ oj.dst undef h3) (wanted_put oi _ oj.dst undef h3) (fun w => about_put oi w _ oj.dst undef h3)
        · rw [← Act.put_comm _ v undef h2]; exact h.2
      | enter f args =>
        simp only [Oper.uponIn] at h ⊢
        exact ⟨h.1, CallsIn.mono h.2 fun e w'' he => by
          cases e with
          | returned u => exact go u w'' he
          | panicked c => exact he.elim
          | outgrown => exact (onlyN_letsOut he).elim⟩
      | row rw' args =>
        simp only [Oper.uponIn] at h ⊢
        exact ⟨h.1, RowsIn.mono h.2 fun u w'' he => go u w'' he⟩
      | round l f tmps assign body =>
        simp only [Oper.uponIn] at h ⊢
        exact ⟨h.1, RoundIn.mono h.2 fun e w'' he => by
          cases e with
          | returned u => exact go u w'' he
          | panicked c => exact he.elim
          | outgrown => exact (onlyN_letsOut he).elim⟩
      | _ => exact h
    | halt x w' => cases x <;> exact h
  · rename_i hw
    simp only [hw] at h
    exact ⟨fun f hf => h.1 f (by rw [about_put oj w a oi.dst v h1]; exact hf), go undef w h.2⟩
theorem wpAnyB_first {Q : Exit → Act → World → Prop} {i : Nat} {oi : Oper} {v : Value} (hi : ops[i]? = some oi) (hnd : ∀ (i : Nat) (o : Oper), ops[i]? = some o → noDefer o) (hsel : ∀ (j : Nat) (o : Oper) cs b, ops[j]? = some o → o.op ≠ .select cs b) :
    ∀ (fuel : Nat) (listed : Array Bool) (a : Act) (w : World),
      (∀ j oj, ops[j]? = some oj → j ≠ i → listed.getD j true = false → (∀ e ∈ oj.after, Region.binds md e = true → e.on ≠ i) → oi.apart ops oj = true) →
      i ∈ Region.ready md ops listed → Yields F n P ops oi v a w →
      wpAnyB F n P md ops (onlyN Q) fuel (listed.setIfInBounds i true) (a.put oi.dst v) w → wpAnyB F n P md ops (onlyN Q) (fuel + 1) listed a w := by
  intro fuel
  induction fuel with
  | zero =>
    intro listed a w _ hr hy H
    refine ⟨fun h => (by rw [h] at hr; cases hr), fun j hj => ?_⟩
    by_cases hji : j = i
    · subst hji; exact YieldsQuiet.wpOpIn (C := fun _ => True) (hnd j oi hi) hi (hy w (Below.refl _ _)) ⟨Below.refl _ _, H⟩
    · have := ready_mono hj hji
      rw [H.1] at this
      cases this
  | succ fuel ih =>
    intro listed a w hfree hr hy H
    refine ⟨fun h => (by rw [h] at hr; cases hr), fun j hj => ?_⟩
    by_cases hji : j = i
    · subst hji; exact YieldsQuiet.wpOpIn (C := fun _ => True) (hnd j oi hi) hi (hy w (Below.refl _ _)) ⟨Below.refl _ _, H⟩
    · have h1 := H.2 j (ready_mono hj hji)
      obtain ⟨hjun, oj, hoj, hall⟩ := mem_ready.1 hj
      have hnot : ∀ e ∈ oj.after, Region.binds md e = true → e.on ≠ i := fun e he hb heq => by
        have h1 := hall e he hb
        have h0 := (mem_ready.1 hr).1
        rw [heq, getD_both h0] at h1
        cases h1
      have h2 := wpOpIn_putB hoj (hnd j oj hoj) (hfree j oj hoj hji hjun hnot) (fun cs b => hsel i oi cs b hi) (fun cs b => hsel j oj cs b hoj) hy h1
      have hfree' : ∀ k ok, ops[k]? = some ok → k ≠ i → (listed.setIfInBounds j true).getD k true = false →
          (∀ e ∈ ok.after, Region.binds md e = true → e.on ≠ i) → oi.apart ops ok = true := fun k ok hk hki hun hno => by
        refine hfree k ok hk hki ?_ hno
        by_cases hjk : j = k
        · subst hjk; exact hjun
        · rw [getD_set_ne true hjk] at hun; exact hun
      refine wpOpIn_mono (fun a' w' h3 => ⟨h3.1, ih (listed.setIfInBounds j true) a' w' hfree' (ready_mono hr (Ne.symm hji)) h3.2.1 ?_⟩) h2
      rw [Array.setIfInBounds_comm _ _ hji]
      exact h3.2.2
/-- Operations in a given order. -/
def wpG (F : Fence) (n : Nat) (P : Program) (ops : Array Oper) (Q : Exit → Act → World → Prop) : List Nat → Act → World → Prop
  | [], a, w => Q .normal a w
  | i :: is, a, w =>
    match ops[i]? with
    | none => False
    | some o => if quietN o = true then ∃ v, Yields F n P ops o v a w ∧ wpG F n P ops Q is (a.put o.dst v) w
      else wpOpIn F n P ops Q i (fun a' w' => Below w.heap.size w w' ∧ wpG F n P ops Q is a' w') a w
theorem wpG_any {Q : Exit → Act → World → Prop} (hnd : ∀ (i : Nat) (o : Oper), ops[i]? = some o → noDefer o) (hsel : Region.noSelect ops = true) : ∀ (is : List Nat) (listed : Array Bool) (a : Act) (w : World),
    wideC md ops is listed = true → wpG F n P ops (onlyN Q) is a w → wpAnyB F n P md ops (onlyN Q) is.length listed a w
  | [], listed, a, w, hc, h => ⟨by simpa [wideC] using hc, h⟩
  | i :: is, listed, a, w, hc, h => by
    simp only [wideC, Bool.and_eq_true, Bool.or_eq_true, decide_eq_true_eq] at hc
    obtain ⟨hc1, hc2⟩ := hc
    unfold wpG at h
    cases hi : ops[i]? with
    | none => rw [hi] at h; exact h.elim
    | some o =>
      rw [hi] at h
      simp only at h
      rcases hc1 with hr | ⟨⟨hq, hr⟩, hf⟩
      · refine ⟨fun h0 => (by rw [h0] at hr; cases hr), fun j hj => ?_⟩
        rw [hr] at hj
        have : j = i := by simpa using hj
        subst this
        by_cases hqo : quietN o = true
        · rw [if_pos hqo] at h
          obtain ⟨v, hy, hK⟩ := h
          exact YieldsQuiet.wpOpIn (C := fun _ => True) (hnd j o hi) hi (hy w (Below.refl _ _)) ⟨Below.refl _ _, wpG_any hnd hsel is _ _ _ hc2 hK⟩
        · rw [if_neg hqo] at h
          exact wpOpIn_mono (fun a' w' hk => ⟨hk.1, wpG_any hnd hsel is _ a' w' hc2 hk.2⟩) h
      · have hqo : quietN o = true := by simpa [quietI, hi] using hq
        rw [if_pos hqo] at h
        obtain ⟨v, hy, hK⟩ := h
        exact wpAnyB_first hi hnd (Region.noSelect_spec hsel) _ listed a w (Region.free_spec hi hf) (by simpa using hr) hy (wpG_any hnd hsel is _ _ _ hc2 hK)
theorem region_wide {id : Nat} {Q : Exit → Act → World → Prop} {a : Act} {w : World} (hnd : ∀ (i : Nat) (o : Oper), ops[i]? = some o → noDefer o) (hm : P.follows .mixedOrders = true) (hB : wideB .any ops = true)
    (h : wpG F n P ops (onlyN Q) (wideI ops.toList) a { w with drawn := w.drawn + 1 }) : (Code.region id ops true).wpIn F n P Q a w := by
  simp only [wideB, Bool.and_eq_true, decide_eq_true_eq] at hB
  obtain ⟨⟨⟨_, hsel⟩, hlen⟩, hc⟩ := hB
  have := wpAnyB_any _ _ _ _ (wpG_any (md := .any) hnd hsel _ _ _ _ hc h)
  rw [hlen] at this
  exact wpIn_mono (wpIn_region_any (Q := onlyN Q) hm this) onlyN_mono
end
end Go.AI
