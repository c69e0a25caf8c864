/- The abstract machine and the model: stores, append, a map's update. -/
import Derived.Test.YthjieekbbhhjgaaDoorE8
namespace Go.AI
open Go.RowKit
section
variable {P : Program} {B : Nat} {ρ : Ren} {H : Heap} {w : World} {tm : Tm} {a : Act}

theorem splice_eq : ∀ (vs cs : List Value) (i : Nat), i + vs.length ≤ cs.length → splice cs i vs = cs.take i ++ vs ++ cs.drop (i + vs.length)
  | [], cs, i, _ => by simp [splice]
  | v :: vs, cs, i, h => by
    have hi : i < cs.length := by simp at h; omega
    rw [splice, splice_eq vs (cs.set i v) (i + 1) (by simp at h ⊢; omega)]
    have e1 : (cs.set i v).take (i + 1) = cs.take i ++ [v] := by
      rw [List.take_add_one, List.getElem?_set_self (by simpa using hi)]
      simp [List.take_set_of_le]
    have e2 : (cs.set i v).drop (i + 1 + vs.length) = cs.drop (i + (v :: vs).length) := by
      rw [List.drop_set_of_lt (by omega)]
      congr 1; simp; omega
    rw [e1, e2]; simp

theorem splice_append : ∀ (vs ys rest : List Value) (i : Nat), i + vs.length ≤ ys.length → splice (ys ++ rest) i vs = splice ys i vs ++ rest
  | [], _, _, _, _ => rfl
  | v :: vs, ys, rest, i, h => by
    have hi : i < ys.length := by simp at h; omega
    rw [splice, splice, List.set_append_left _ _ hi, splice_append vs (ys.set i v) rest (i + 1) (by simp at h ⊢; omega)]

theorem run_storeVar {t : TypeId} {v : Value} {g o : Nat} {elem : TypeId} {cur : Array Value} (hsz : sizeB P t = some v.cells.size) (hg : w.heap[g]? = some (.cells cur elem (0, 0))) (hle : o + v.cells.size ≤ cur.size)
    (h1 : ∀ u ∈ v.cells.toList, u.oneCell' = true) : (storeVar t ⟨g, o, none⟩ v).run P w = .ok () (w.setRow g (splice cur.toList o v.cells.toList).toArray) := by
  have := run_storeCells_at P g o elem v.cells.toList 0 cur w hg (by simpa using hle) h1
  rw [splice_eq _ _ _ (by simpa using hle)]
  simp only [Nat.add_zero] at this
  simp [storeVar, run_sz hsz, this]

theorem setRow_size (w : World) (g : Nat) (cs : Array Value) : (w.setRow g cs).heap.size = w.heap.size := by simp [World.setRow]

theorem y_store (hH : HR P B ρ H w) {t : TypeId} {x v x' v' : Value} {H' : Heap} {lo : Nat} (hx : VT ρ x x') (hv : VT ρ v v') (h : astore P t H v x = some (H', lo)) :
    YD P B ρ w undef H' lo (fun w _ w' => (Instr.storeAt t x' v').run P w = .ok () w') := by
  unfold astore at h
  split at h
  · rename_i b i
    split at h
    · rename_i cs elem k hg
      split at h <;> cases h
      rename_i hc
      obtain ⟨c1, c2, c3, c4⟩ := hc
      obtain ⟨e, hρ, rfl⟩ := vt_ptr hx
      obtain ⟨hB, hb0, cur, hh, ⟨ys, rest, hcur, h2⟩, hk⟩ := hH.obj _ _ _ hg hρ
      have hvs := vt_cells_size hv c3
      have hcl := (hv.to_R c3).cells
      have hyl := h2.length
      have hcs : cur.size = ys.length + rest.length := by rw [← Array.length_toList, hcur]; simp
      have hrun := run_storeVar (P := P) (w := w) (t := t) (v := v') (g := e.blk) (o := i) (cur := cur) (by rw [hvs]; exact c1) hh (by omega) (fun u hu => by
        obtain ⟨j, hj⟩ := List.mem_iff_getElem?.1 hu
        have hjl : j < v.cells.toList.length := by
          have := (List.getElem?_eq_some_iff.1 hj).1
          simp only [Array.length_toList] at this ⊢; omega
        exact (hcl.both (List.getElem?_eq_getElem hjl) hj).oneC.2)
      have e1 : splice cur.toList i v'.cells.toList = splice ys i v'.cells.toList ++ rest := by
        rw [hcur]; exact splice_append _ _ _ _ (by simp only [Array.length_toList]; omega)
      obtain ⟨h3, h4⟩ := hH.write (w' := w.setRow e.blk (splice cur.toList i v'.cells.toList).toArray) (o' := .cells (splice cs i v.cells.toList) elem (k + 1)) hg hρ (by simp [writable]) hB rfl rfl rfl (setRow_size _ _ _)
        (fun j hj => setRow_other w e.blk j _ hj)
        ⟨hB, hb0, (splice cur.toList i v'.cells.toList).toArray, setRow_heap w e.blk cur _ elem _ hh, ⟨splice ys i v'.cells.toList, rest, by simp [e1], L2.splice i h2 hcl⟩, fun hk1 => by
          obtain ⟨s, s1, s2, s3, s4⟩ := hk hk1
          exact ⟨s, s1, s2, by rw [List.size_toArray, splice_length, Array.length_toList]; exact s3, s4⟩⟩
      refine ⟨ρ, undef, _, ?_, VT.undef ρ, h3, h4⟩
      simp [Instr.storeAt, Instr.sureAddr, hb0, hrun]
    · cases h
  · cases h

/-- Nothing is appended. -/
theorem run_append_zero {t ty elem : TypeId} {info : TypeInfo} (hu : P.underlying t = some (.slice elem)) (hi : P.info? elem = some info) (base ad : Option Addr) (n cap c : Nat) (hn : n ≤ cap) (w : World) :
    (Builtin.append_ #[t, t] ty #[.slice base n cap, .slice ad 0 c]).run P w = .ok (.slice base n cap) w := by
  have hs : sizeB P elem = some info.size := by simp [sizeB, hi]
  cases base <;> cases ad <;> simp [Builtin.append_, run_underlying hu, run_sz hs, Builtin.lenOf, hn, Builtin.firstCells, loadCells, loadCellsFrom, storeCells]

/-- The cells of what is appended, as the model reads them. -/
theorem source_sound (hH : HR P B ρ H w) {s : Nat} {y y' : Value} {news : List Value} {m : Nat} (hy : VT ρ y y') (h : sourceOf H s y = some (news, m)) (hm : m ≠ 0) :
    ∃ ad c news', y' = .slice (some ad) m c ∧ L2 (VC ρ) news news' ∧ news.length = m * s ∧ ∀ (j : Nat) (u : Value), news'[j]? = some u → w.cell? (ad.add j) = some u := by
  unfold sourceOf at h
  split at h
  · cases h; exact absurd rfl hm
  · cases h; exact absurd rfl hm
  · rename_i b i m' c
    split at h
    · rename_i cs elem k hg
      split at h <;> cases h
      rename_i hle
      obtain ⟨e, c', hρ, hn, h0, rfl⟩ := vt_sl hy
      obtain ⟨ys, h2, hc⟩ := hH.cellsAt hg hρ
      have hyl := h2.length
      refine ⟨_, _, (ys.drop i).take (m * s), rfl, (h2.drop i).take _, by simp; omega, fun j u hu => ?_⟩
      rw [addr_add, Nat.add_assoc]
      refine hc w (Below.refl _ _) _ _ ?_
      rw [List.getElem?_take] at hu
      split at hu
      · simpa [List.getElem?_drop] using hu
      · cases hu
    · cases h
  · cases h

theorem source_zero {s : Nat} {y y' : Value} {news : List Value} (hy : VT ρ y y') (h : sourceOf H s y = some (news, 0)) : ∃ ad c, y' = .slice ad 0 c := by
  unfold sourceOf at h
  split at h
  · rw [vt_nil hy]; exact ⟨_, _, rfl⟩
  · obtain ⟨a', c', rfl⟩ := vt_anon hy; exact ⟨_, _, rfl⟩
  · split at h
    · split at h <;> cases h
      obtain ⟨ad', c', rfl⟩ := vt_slice hy
      exact ⟨_, _, rfl⟩
    · cases h
  · cases h

theorem y_append (hH : HR P B ρ H w) {ts : Array TypeId} {ty : TypeId} {x y v x' y' : Value} {H' : Heap} {lo : Nat} (hx : VT ρ x x') (hy : VT ρ y y') (h : aappend P H ts x y = some (v, H', lo)) :
    YD P B ρ w v H' lo (fun w v' w' => (Builtin.append_ ts ty #[x', y']).run P w = .ok v' w') := by
  unfold aappend at h
  split at h
  · rename_i t u hts
    split at h
    · cases h
    · rename_i htu
      have htu' : t = u := Decidable.byContradiction htu
      subst htu'
      have hts' : ts = #[t, t] := by rw [← Array.toList_inj]; exact hts
      subst hts'
      split at h
      · rename_i elem hu
        split at h
        · rename_i info hi
          split at h
          · rename_i z hz
            split at h
            · cases h
            · rename_i hzc
              have hs0 : 0 < info.size := Nat.pos_of_ne_zero fun h0 => hzc (.inl h0)
              have hzs : z.cells.size = info.size := Decidable.byContradiction fun h0 => hzc (.inr h0)
              have hsz : sizeB P elem = some info.size := by simp [sizeB, hi]
              split at h
              · rename_i news m hsrc
                split at h
                · -- the slice is nil
                  rw [vt_nil hx]
                  split at h
                  · rename_i hm
                    cases h
                    subst hm
                    obtain ⟨ad, c, rfl⟩ := source_zero hy hsrc
                    exact ⟨ρ, _, w, run_append_zero hu hi none ad 0 0 c (Nat.le_refl _) w, VT.of_plain rfl, hH, Ext.refl _ _ _ _⟩
                  · rename_i hm
                    split at h <;> cases h
                    rename_i hb
                    obtain ⟨ad, c, news', rfl, h2, hl, hcell⟩ := source_sound hH hy hsrc hm
                    have hl' : news'.length = m * info.size := by rw [← h2.length]; exact hl
                    have hmx : (m : Int) ≤ 9223372036854775807 := by have := hb.1; simp [maxLen] at this; omega
                    have hr := run_append_nil (P := P) w t ty elem info z hu hi hz ad m c news' hl' hcell (by omega) hmx (by omega)
                    have hge : m ≤ grownCap w m 0 elem := grownCap_ge w m 0 elem
                    obtain ⟨h7, h8⟩ := hH.newCells (w1 := w.drew) (Below.refl _ w).drew rfl news (news'.toArray ++ Builtin.zeroCells z.cells (grownCap w m 0 elem - m)) elem 1 (grownCap w m 0 elem) H.n news' _ (by simp; rfl) h2
                      (fun _ => ⟨info.size, hs0, hsz, by
                        rw [Array.size_append, List.size_toArray, size_zeroCells, hzs, hl', ← Nat.add_mul]
                        congr 1; omega, grownCap_le_maxLen w m 0 elem hb.1⟩)
                    exact ⟨_, _, _, hr, .one (.cell (.sl (i := 0) (Ren.add_eq ρ H.n ⟨w.heap.size, 0, grownCap w m 0 elem⟩) hge (fun _ => ⟨rfl, rfl, rfl⟩))), h7, h8⟩
                · rename_i b i n c
                  obtain ⟨e, c', hρ, hn, h0, rfl⟩ := vt_sl hx
                  split at h
                  · rename_i hm
                    cases h
                    subst hm
                    obtain ⟨ad, c1, rfl⟩ := source_zero hy hsrc
                    exact ⟨ρ, _, w, run_append_zero hu hi _ ad n c' c1 hn w, .one (.cell (.sl hρ hn h0)), hH, Ext.refl _ _ _ _⟩
                  · rename_i hm
                    split at h
                    · cases h
                    · rename_i hci
                      have hc0 : c = 0 := Decidable.byContradiction fun h1 => hci (.inl h1)
                      have hi0 : i = 0 := Decidable.byContradiction fun h1 => hci (.inr h1)
                      subst hc0; subst hi0
                      obtain ⟨_, hbase, hcap⟩ := h0 rfl
                      split at h
                      · rename_i cs el hg
                        split at h <;> cases h
                        rename_i hb
                        obtain ⟨b1, b2, b3, b4⟩ := hb
                        subst b1
                        obtain ⟨hB, _, cur, hh, ⟨ys, rest, hcur, h2⟩, hk⟩ := hH.obj _ _ _ hg hρ
                        obtain ⟨s, s1, s2, s3, s4⟩ := hk rfl
                        have hss : s = info.size := by rw [hsz] at s2; cases s2; rfl
                        subst hss
                        obtain ⟨ad, c1, news', rfl, h3, hl, hcell⟩ := source_sound hH hy hsrc hm
                        have hl' : news'.length = m * info.size := by rw [← h3.length]; exact hl
                        have hyl := h2.length
                        have hcs : cur.size = ys.length + rest.length := by rw [← Array.length_toList, hcur]; simp
                        have hone : ∀ u ∈ news', u.oneCell' = true := fun u hu => by
                          obtain ⟨j, hj⟩ := List.mem_iff_getElem?.1 hu
                          have hjl : j < news.length := by have := (List.getElem?_eq_some_iff.1 hj).1; have := h3.length; omega
                          exact (h3.both (List.getElem?_eq_getElem hjl) hj).oneC.2
                        have htake : cur.toList.take (n * info.size) = ys := by rw [hcur, ← b2, hyl]; exact List.take_left
                        simp only [hbase, Nat.add_zero]
                        by_cases hroom : n + m ≤ c'
                        · have hfit : n * info.size + news'.length ≤ cur.size := by
                            rw [hl', s3, ← Nat.add_mul, ← hcap]; exact Nat.mul_le_mul_right _ hroom
                          have hr := run_append_room (P := P) w t ty el info hu hi e.blk n c' cur hh ad m c1 news' hl' hcell hone hroom hfit
                          obtain ⟨h7, h8⟩ := hH.grow (w' := w.setRow e.blk (cur.toList.take (n * info.size) ++ news' ++ cur.toList.drop (n * info.size + news'.length)).toArray) (o' := .cells (cs ++ news) el 2)
                            hg hρ (by simp [writable]) hB rfl rfl rfl (setRow_size _ _ _) (fun j hj => setRow_other w e.blk j _ hj)
                            ⟨hB, hbase, _, setRow_heap w e.blk cur _ el _ hh, ⟨ys ++ news', cur.toList.drop (n * info.size + news'.length), by rw [htake], (h2.append h3).mono fun _ _ => VC.mono (hH.le_add e)⟩, fun _ => ⟨info.size, s1, s2, by
                              simp only [List.size_toArray, List.length_append, List.length_take, List.length_drop, Array.length_toList]; omega, s4⟩⟩
                          refine ⟨_, _, _, hr, .one (.cell ?_), h7, h8⟩
                          have := VC.sl (ρ := Ren.add ρ H.n e) (b := H.n) (i := 0) (n := n + m) (c := 0) (c' := c') (Ren.add_eq ρ H.n e) hroom (fun _ => ⟨rfl, hbase, hcap⟩)
                          simpa [hbase] using this
                        · have hr := run_append_grow (P := P) w t ty el info z hu hi hz ⟨e.blk, 0, none⟩ n c' ys (by rw [← hyl, b2]) (fun j u hu' => by
                              rw [addr_add, Nat.zero_add]
                              have : cur[j]? = some u := by rw [← Array.getElem?_toList, hcur, List.getElem?_append_left (List.getElem?_eq_some_iff.1 hu').1]; exact hu'
                              simp [World.cell?, hh, this]) ad m c1 news' hl' hcell (by omega) (by simp [maxLen] at b3; omega) (growslice_fits (by omega) b4)
                          have hge : n + m ≤ grownCap w (n + m) c' el := grownCap_ge w (n + m) c' el
                          -- the old block is gone, a new one is made
                          obtain ⟨hH1, hE1⟩ := hH.write (w' := w) (o' := .gone) hg hρ (by simp [writable]) hB rfl rfl rfl rfl (fun _ _ => rfl) trivial
                          obtain ⟨h7, h8⟩ := hH1.newCells (w1 := w.drew) (Below.refl _ w).drew rfl (cs ++ news) (ys.toArray ++ news'.toArray ++ Builtin.zeroCells z.cells (grownCap w (n + m) c' el - (n + m))) el 1 (grownCap w (n + m) c' el) lo (ys ++ news') _ (by simp; rfl) (h2.append h3)
                            (fun _ => ⟨info.size, hs0, hsz, by
                              rw [Array.size_append, Array.size_append, List.size_toArray, List.size_toArray, size_zeroCells, hzs, hl', ← hyl, b2, ← Nat.add_mul, ← Nat.add_mul]
                              congr 1; omega, grownCap_le_maxLen w (n + m) c' el b3⟩)
                          exact ⟨_, _, _, hr, .one (.cell (.sl (i := 0) (Ren.add_eq ρ (H.set lo .gone).n ⟨w.heap.size, 0, grownCap w (n + m) c' el⟩) hge (fun _ => ⟨rfl, rfl, rfl⟩))), h7, h8⟩
                      · cases h
                · cases h
              · cases h
          · cases h
        · cases h
      · cases h
  · cases h

end
end Go.AI
