/- The abstract machine and the model: building values, maps that are read, bytes to a string. -/
import Derived.Test.YthjieekbbhhjgaaDoorE6
namespace Go.AI
open Go.RowKit
section
variable {P : Program} {B : Nat} {ρ : Ren} {H : Heap} {w : World} {tm : Tm} {a : Act}

theorem fill_toList (off : Nat) : ∀ (l : List Value) (k : Nat) (cs : Array Value), ((l.zipIdx k).foldl (fun (cs : Array Value) (p : Value × Nat) => cs.setIfInBounds (off + p.2) p.1) cs).toList = splice cs.toList (off + k) l
  | [], _, _ => rfl
  | v :: l, k, cs => by
    rw [List.zipIdx_cons, List.foldl_cons, fill_toList off l (k + 1)]
    simp [splice, Nat.add_assoc]

abbrev PR (ρ : Ren) (p q : Nat × Value) : Prop := p.1 = q.1 ∧ VT ρ p.2 q.2

theorem vt_cells_size {v v' : Value} (h : VT ρ v v') (hn : notTuple v = true) : v'.cells.size = v.cells.size := by
  have := (h.to_R hn).cells.length
  simpa using this.symm

theorem fill_sim (place place' : Nat → Option (Nat × Nat)) (hp : ∀ i p, place i = some p → place' i = some p) : ∀ (parts : List (Nat × Value)) (parts' : List (Nat × Value)) (cs : List Value) (cs' : Array Value) (r : List Value),
    L2 (PR ρ) parts parts' → L2 (VC ρ) cs cs'.toList → fillL place cs parts = some r → ∃ r', Instr.fill place' cs' parts' = some r' ∧ L2 (VC ρ) r r'.toList
  | [], _, cs, cs', r, .nil, hc, h => by simp only [fillL, Option.some.injEq] at h; subst h; exact ⟨cs', rfl, hc⟩
  | (i, v) :: parts, (i', v') :: parts', cs, cs', r, .cons hv ht, hc, h => by
    obtain ⟨rfl, hv⟩ := hv
    simp only [fillL] at h
    split at h
    · cases h
    · rename_i off size hpl
      split at h
      · cases h
      · rename_i hcond
        have hs1 : v.cells.size = size := Decidable.byContradiction fun hh => hcond (.inl hh)
        have hs2 : ¬ off + v.cells.size > cs.length := fun hh => hcond (.inr (.inl hh))
        have hs3 : notTuple v = true := by
          cases hnt : notTuple v with
          | true => rfl
          | false => exact absurd (.inr (.inr hnt)) hcond
        have hvs := vt_cells_size hv hs3
        have hlen : cs'.size = cs.length := by simpa using hc.length.symm
        have hnew : L2 (VC ρ) (splice cs off v.cells.toList) (v'.cells.zipIdx.foldl (fun (cs : Array Value) (p : Value × Nat) => cs.setIfInBounds (off + p.2) p.1) cs').toList := by
          have e : (v'.cells.zipIdx.foldl (fun (cs : Array Value) (p : Value × Nat) => cs.setIfInBounds (off + p.2) p.1) cs').toList = splice cs'.toList off v'.cells.toList := by
            rw [← Array.foldl_toList, Array.toList_zipIdx]
            exact fill_toList off v'.cells.toList 0 cs'
          rw [e]
          exact L2.splice off hc (hv.to_R hs3).cells
        obtain ⟨r', h1, h2⟩ := fill_sim place place' hp parts parts' _ _ r ht hnew h
        refine ⟨r', ?_, h2⟩
        have hcond' : ¬ (v'.cells.size ≠ size || decide (off + v'.cells.size > cs'.size)) = true := by
          simp [hvs, hs1, hlen]; omega
        simp only [Instr.fill, hp i _ hpl]
        rw [if_neg (by simpa using hcond')]
        exact h1

theorem evParts_sound (hH : HR P B ρ H w) (hF : FR ρ tm a) : ∀ (parts : List (Nat × Operand)) (l : List (Nat × Value)), evParts P tm parts = some l → L2 (PR ρ) l (parts.map fun (i, x) => (i, a.eval x))
  | [], l, h => by simp only [evParts, Option.some.injEq] at h; subst h; exact .nil
  | (i, x) :: parts, l, h => by
    simp only [evParts] at h
    split at h
    · rename_i v r hv hr
      cases h
      exact .cons ⟨rfl, ev_sound hH hF hv⟩ (evParts_sound hH hF parts r hr)
    · cases h

theorem run_zero {t : TypeId} {i : TypeInfo} {z : Value} (hi : P.info? t = some i) (hz : i.zero = some z) (w1 : World) : (zeroValue t).run P w1 = .ok z w1 := by
  simp [zeroValue, typeInfo, hi, hz]

theorem run_places : ∀ (fs : List Field), fs.all (fun f => (sizeB P f.type).isSome) = true → ∀ w1 : World, (fs.mapM (m := Sem) fun f => do pure (f.offset, ← sizeOf f.type)).run P w1 = .ok (fs.map fun f => (f.offset, (sizeB P f.type).getD 0)) w1
  | [], _, _ => by simp
  | f :: fs, h, w1 => by
    simp only [List.all_cons, Bool.and_eq_true] at h
    obtain ⟨n, hn⟩ := Option.isSome_iff_exists.1 h.1
    have ih := run_places fs h.2 w1
    simp only [List.mapM_cons, Sem.run_bind, Sem.run_pure, Result.andThen_ok, run_sz hn, ih, List.map_cons, hn, Option.getD_some]

theorem q_build (hH : HR P B ρ H w) (hF : FR ρ tm a) {t : TypeId} {parts : Array (Nat × Operand)} {l : List (Nat × Value)} {v : Value} (hl : evParts P tm parts.toList = some l) (h : abuild P t l = some v) :
    QY P ρ w v (Instr.build t (parts.map fun (i, x) => (i, a.eval x))) := by
  have hp := evParts_sound hH hF _ _ hl
  unfold abuild at h
  split at h
  · rename_i info hi
    split at h
    · rename_i z hz
      split at h
      · rename_i hsc
        have hz2 : L2 (VC ρ) z.cells.toList z.cells.toList := L2.refl_of fun x hx => .same (List.all_eq_true.1 hsc x hx)
        split at h
        · rename_i fs hu
          split at h
          · rename_i hall
            cases hf : fillL (placeOf P fs) z.cells.toList l with
            | none => rw [hf] at h; cases h
            | some r =>
              rw [hf] at h; cases h
              obtain ⟨r', h1, h2⟩ := fill_sim (placeOf P fs) (fun i => ((fs.map fun f => (f.offset, (sizeB P f.type).getD 0)) : Array (Nat × Nat))[i]?) (fun i p hpl => by
                unfold placeOf at hpl
                split at hpl
                · rename_i f hf'
                  split at hpl <;> cases hpl
                  rename_i n hn
                  simp [hf', hn]
                · cases hpl) _ _ _ _ _ hp hz2 hf
              refine ⟨.agg r', .one (.agg (by simpa using h2)), fun w1 _ => ?_⟩
              have hpl : (fs.mapM (m := Sem) fun f => do pure (f.offset, ← sizeOf f.type)).run P w1 = .ok (fs.map fun f => (f.offset, (sizeB P f.type).getD 0)) w1 := by
                rw [Array.mapM_eq_mapM_toList, Sem.run_map, run_places fs.toList hall w1, Result.andThen_ok, ← Array.toList_map]
              unfold Instr.build
              rw [Sem.run_bind, run_zero hi hz, Result.andThen_ok, Sem.run_bind, run_underlying hu, Result.andThen_ok]
              simp only [Sem.run_bind, hpl, Result.andThen_ok]
              rw [Array.toList_map, h1]; rfl
          · cases h
        · rename_i n elem hu
          split at h
          · rename_i s hs
            cases hf : fillL (fun i => some (i * s, s)) z.cells.toList l with
            | none => rw [hf] at h; cases h
            | some r =>
              rw [hf] at h; cases h
              obtain ⟨r', h1, h2⟩ := fill_sim (fun i => some (i * s, s)) (fun i => some (i * s, s)) (fun _ _ h => h) _ _ _ _ _ hp hz2 hf
              refine ⟨.agg r', .one (.agg (by simpa using h2)), fun w1 _ => ?_⟩
              unfold Instr.build
              rw [Sem.run_bind, run_zero hi hz, Result.andThen_ok, Sem.run_bind, run_underlying hu, Result.andThen_ok]
              simp only [Sem.run_bind, run_sz hs, Result.andThen_ok]
              rw [Array.toList_map, h1]; rfl
          · cases h
        · cases h
      · cases h
    · cases h
  · cases h

abbrev MR (ρ : Ren) (kv : Value × Value) (me : MapEntry) : Prop := plain kv.1 = true ∧ me.key = kv.1 ∧ VR ρ kv.2 me.val

theorem findA_sim (kd : TypeDesc) (k : Value) : ∀ (es : List (Value × Value)) (ents : List MapEntry) (i : Nat), L2 (MR ρ) es ents →
    (findA kd k es i = some none → Instr.findNow kd k ents i = some none) ∧
    (∀ j v, findA kd k es i = some (some (j, v)) → ∃ v', Instr.findNow kd k ents i = some (some (j, v')) ∧ VR ρ v v')
  | [], _, _, .nil => ⟨fun _ => rfl, fun j v h => by simp [findA] at h⟩
  | (k0, v0) :: es, me :: ents, i, .cons ⟨_, hk, hv⟩ ht => by
    have ih := findA_sim kd k es ents (i + 1) ht
    simp only [findA, Instr.findNow, hk]
    cases hs : Instr.sameNow kd k k0 with
    | none => exact ⟨fun h => by simp at h, fun j v h => by simp at h⟩
    | some b => cases b with
      | true => exact ⟨fun h => by simp at h, fun j v h => by simp at h; obtain ⟨rfl, rfl⟩ := h; exact ⟨_, rfl, hv⟩⟩
      | false => exact ih

theorem amap_sound (hH : HR P B ρ H w) {x x' : Value} {es : List (Value × Value)} (hx : VT ρ x x') (h : amap H x = some es) :
    (x' = .map none ∧ es = []) ∨ ∃ r e, x = .map (some r) ∧ x' = .map (some e.blk) ∧ H.get r = some (.map es) ∧ ρ r = some e := by
  unfold amap at h
  split at h
  · cases h; exact .inl ⟨hx.plain rfl, rfl⟩
  · split at h <;> cases h
    rename_i r es' hg
    obtain ⟨e, hρ, rfl⟩ := vt_map hx
    exact .inr ⟨r, e, rfl, rfl, hg, hρ⟩
  · cases h

theorem run_lookup {t kt et : TypeId} {x' k r : Value} {ok : Bool} {ents : Array MapEntry} {u : Unit} {f : Option (Nat × Value)} {w1 : World} (hu : P.underlying t = some (.map kt et))
    (hx : (x' = .map none ∧ ents = #[]) ∨ ∃ r clock, x' = .map (some r) ∧ w1.heap[r]? = some (.map ents clock)) (hck : (Instr.checkKey ents.isEmpty 10000 kt k).run P w1 = .ok u w1)
    (hf : (Instr.findKey kt k ents.toList).run P w1 = .ok f w1)
    (hr : (∃ j v, f = some (j, v) ∧ r = (if ok then .tuple #[v, .bool true] else v)) ∨ (f = none ∧ ∃ z, (zeroValue et).run P w1 = .ok z w1 ∧ r = (if ok then .tuple #[z, .bool false] else z))) :
    (Instr.lookup t x' k ok).run P w1 = .ok r w1 := by
  unfold Instr.lookup
  rcases hx with ⟨rfl, rfl⟩ | ⟨q, clock, rfl, hh⟩ <;> rcases hr with ⟨j, v, rfl, rfl⟩ | ⟨rfl, z, hz, rfl⟩
  · simp at hck hf; simp [run_underlying hu, hck, hf]
  · simp at hck hf; simp [run_underlying hu, hck, hf, hz]
  · simp [run_underlying hu, getObj, Sem.run, hh, hck, hf]
  · simp [run_underlying hu, getObj, Sem.run, hh, hck, hf, hz]

theorem q_lookup (hH : HR P B ρ H w) {t : TypeId} {x k x' k' v : Value} {ok : Bool} (hx : VT ρ x x') (hk : VT ρ k k') (h : alookup P H t x k ok = some v) : QY P ρ w v (Instr.lookup t x' k' ok) := by
  unfold alookup at h
  split at h
  · rename_i kt et es hu hm
    split at h
    · rename_i kd z hkd hz
      split at h
      · rename_i hc
        obtain ⟨c1, c2, c3, c4⟩ := hc
        obtain ⟨u, hu4⟩ := Option.isSome_iff_exists.1 c4
        rw [hk.plain c1]
        have hz' : ∃ i, P.info? et = some i ∧ i.zero = some z := by
          cases hi : P.info? et with
          | none => rw [hi] at hz; cases hz
          | some i => rw [hi] at hz; exact ⟨i, rfl, hz⟩
        obtain ⟨info, hi, hzz⟩ := hz'
        have hzr : VR ρ z z := (VT.of_plain c2).to_R c3
        -- the entries as they are read
        have key : ∀ (ents : Array MapEntry), L2 (MR ρ) es ents.toList → (∀ w1, Below w.heap.size w w1 → (x' = .map none ∧ ents = #[]) ∨ ∃ r clock, x' = .map (some r) ∧ w1.heap[r]? = some (.map ents clock)) → QY P ρ w v (Instr.lookup t x' k ok) := by
          intro ents hl hrun
          have hemp : ents.isEmpty = es.isEmpty := by
            have h1 : es.length = ents.size := by simpa using hl.length
            cases es with
            | nil => have : ents = #[] := Array.size_eq_zero_iff.1 (by simpa using h1.symm); rw [this]; rfl
            | cons e es => rw [Array.isEmpty_eq_false_iff.2 (fun h0 => by rw [h0] at h1; simp at h1)]; rfl
          have hck : ∀ w1, (Instr.checkKey ents.isEmpty 10000 kt k).run P w1 = .ok u w1 := fun w1 => by rw [hemp]; exact pureRun_run P _ _ hu4 w1
          have hs := findA_sim (ρ := ρ) kd k es ents.toList 0 hl
          split at h
          · rename_i j v1 hfa
            cases h
            obtain ⟨v', hf, hv⟩ := hs.2 _ _ hfa
            refine ⟨if ok then .tuple #[v', .bool true] else v', ?_, fun w1 hb => ?_⟩
            · cases ok
              · exact .one hv
              · exact .tup (.cons hv (.cons (.cell (.same rfl)) .nil))
            · exact run_lookup hu (hrun w1 hb) (hck w1) (by simp [Instr.findKey, run_underlying hkd, hf]) (.inl ⟨j, v', rfl, rfl⟩)
          · rename_i hfa
            cases h
            have hf := hs.1 hfa
            refine ⟨if ok then .tuple #[z, .bool false] else z, ?_, fun w1 hb => ?_⟩
            · cases ok
              · exact .one hzr
              · exact .tup (.cons hzr (.cons (.cell (.same rfl)) .nil))
            · exact run_lookup hu (hrun w1 hb) (hck w1) (by simp [Instr.findKey, run_underlying hkd, hf]) (.inr ⟨rfl, z, run_zero hi hzz w1, rfl⟩)
          · cases h
        rcases amap_sound hH hx hm with ⟨rfl, rfl⟩ | ⟨r, e, rfl, rfl, hg, hρ⟩
        · exact key #[] .nil fun w1 _ => .inl ⟨rfl, rfl⟩
        · obtain ⟨_, ents, clock, hh, hl⟩ := hH.obj _ _ _ hg hρ
          exact key ents hl fun w1 hb => .inr ⟨e.blk, clock, rfl, by rw [hb.block _ (hH.top _ _ hρ)]; exact hh⟩
      · cases h
    · cases h
  · cases h

theorem bytes_sim : ∀ (cs ys : List Value) (acc s : ByteArray), L2 (VC ρ) cs ys → bytesOfCells cs acc = some s → ∃ ns : List Int, ys = ns.map (Value.int .u8) ∧ ns.foldl (fun r n => r.push (UInt8.ofNat n.toNat)) acc = s
  | [], _, acc, s, .nil, h => by simp only [bytesOfCells, Option.some.injEq] at h; exact ⟨[], rfl, h⟩
  | v :: cs, y :: ys, acc, s, .cons hv ht, h => by
    cases v with
    | int k n => cases k with
      | u8 =>
        simp only [bytesOfCells] at h
        obtain ⟨ns, h1, h2⟩ := bytes_sim cs ys _ s ht h
        exact ⟨n :: ns, by rw [hv.scalar rfl, h1]; rfl, by simpa using h2⟩
      | _ => simp [bytesOfCells] at h
    | _ => simp [bytesOfCells] at h

theorem q_convert (hH : HR P B ρ H w) {src dst : TypeId} {x v x' : Value} (hx : VT ρ x x') (h : aconvert P H src dst x = some v) : QY P ρ w v (convert src dst x') := by
  have hU8 : ∀ e, isU8 P e = true → P.underlying e = some (.int .u8) := fun e he => by
    unfold isU8 at he
    split at he
    · assumption
    · cases he
  unfold aconvert at h
  split at h
  · split at h
    · rename_i e hu1 hu2
      split at h <;> cases h
      rename_i he
      rw [vt_nil hx]
      exact ⟨_, VT.of_plain rfl, fun w1 _ => by simp [convert, run_underlying hu1, run_underlying hu2, run_underlying (hU8 _ he), Conv.bytesToString]⟩
    · cases h
  · rename_i b i n c
    split at h
    · rename_i e hu1 hu2
      split at h
      · rename_i he
        split at h
        · rename_i cs elem k hg
          split at h
          · rename_i hle
            cases hb0 : bytesOfCells ((cs.drop i).take n) .empty with
            | none => rw [hb0] at h; cases h
            | some s =>
              rw [hb0] at h; cases h
              obtain ⟨en, c', hρ, hn, h0, rfl⟩ := vt_sl hx
              obtain ⟨ys, h2, hc⟩ := hH.cellsAt hg hρ
              obtain ⟨ns, hns, hfold⟩ := bytes_sim _ _ _ _ ((h2.drop i).take n) hb0
              have hlen : ns.length = n := by
                have := congrArg List.length hns
                have h3 := h2.length
                simp at this; omega
              refine ⟨_, VT.of_plain (v := .string s) rfl, fun w1 hb => ?_⟩
              have hrd : (loadCells ⟨en.blk, en.base + i, none⟩ n).run P w1 = .ok (ns.map (Value.int .u8)).toArray w1 := by
                have := run_loadCells_list (P := P) (w := w1) ⟨en.blk, en.base + i, none⟩ (ns.map (Value.int .u8)) (fun j u hu => by
                  rw [addr_add, Nat.add_assoc]
                  refine hc w1 hb _ _ ?_
                  rw [← hns, List.getElem?_take] at hu
                  split at hu
                  · simpa [List.getElem?_drop] using hu
                  · cases hu)
                simpa [hlen] using this
              rw [run_convert_bytes_string w1 src dst e _ n c' hu1 (hU8 _ he) hu2, run_bytesToString w1 _ n c' ns hrd, hfold]
          · cases h
        · cases h
      · cases h
    · cases h
  · cases h

theorem evs_sound (hH : HR P B ρ H w) (hF : FR ρ tm a) : ∀ (xs : List Operand) (l : List Value), evs P tm xs = some l → L2 (VT ρ) l (xs.map a.eval)
  | [], l, h => by simp only [evs, Option.some.injEq] at h; subst h; exact .nil
  | x :: xs, l, h => by
    simp only [evs] at h
    split at h
    · rename_i v r hv hr
      cases h
      exact .cons (ev_sound hH hF hv) (evs_sound hH hF xs r hr)
    · cases h

theorem vt_cell {v v' : Value} (h : VT ρ v v') (hc : cellLike v = true) : VC ρ v v' := by
  cases h with
  | one h => cases h with
    | cell h => exact h
    | agg h => simp [cellLike] at hc
  | tup h => simp [cellLike] at hc

theorem q_func (hH : HR P B ρ H w) (hF : FR ρ tm a) {f : FuncId} {first cap : Array Operand} {l : List Value} (h0 : first.size = 0) (hl : evs P tm cap.toList = some l) (hc : l.all cellLike = true) :
    QY P ρ w (.func (.func f) #[] l.toArray) (Instr.makeFunc (.func f) (first.map a.eval) (cap.map a.eval)) := by
  have h1 := evs_sound hH hF _ _ hl
  have h2 : L2 (VC ρ) l (cap.toList.map a.eval) := L2.of_get h1.length fun i x y hx hy => vt_cell (h1.both hx hy) (List.all_eq_true.1 hc x (List.mem_of_getElem? hx))
  have hf : first = #[] := Array.size_eq_zero_iff.1 h0
  subst hf
  refine ⟨.func (.func f) #[] (cap.map a.eval), .one (.cell (.fn (by simpa using h2.length) fun i x y hx hy => h2.both (by simpa using hx) (by simpa using hy))), fun w1 _ => by simp [Instr.makeFunc]⟩

end
end Go.AI
