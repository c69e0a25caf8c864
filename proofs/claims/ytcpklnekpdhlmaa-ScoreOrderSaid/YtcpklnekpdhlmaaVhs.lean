
/- ScoreOrder: its function answers true. -/
import Derived.Test.YtcpklnekpdhlmaaVgs
set_option linter.unusedVariables false
set_option linter.unusedSimpArgs false
namespace Go.AI
theorem OwnS.keepX {e : TypeId} {s : Nat} {H H' : Heap} {b : Nat} {v : Value} {rs : List (List Value)} {B : Nat} {cs0 : List Value} {e0 : TypeId} (h : OwnS e s H v rs B) (k : KeepX b H H') (hb : H.get b = some (.cells cs0 e0 1)) : OwnS e s H' v rs B := by
  refine ⟨h.1, ?_⟩
  rcases h.2 with h | ⟨b', rfl, h2, h3, h4⟩
  · exact .inl h
  · refine .inr ⟨b', rfl, h2, Nat.lt_of_lt_of_le h3 k.1, ?_⟩
    rw [k.2 b' h3 (by rintro rfl; rw [h4] at hb; cases hb)]; exact h4
theorem RowS.slice_one {P : Program} {H : Heap} {t e : TypeId} {s : Nat} {v : Value} {r0 r1 : List Value} (h : RowS s H v [r0, r1]) (ht : P.underlying t = some (.slice e)) (hs : sizeB P e = some s) :
    ∃ r, aslice P t v (some (some (.int .i64 1))) none = some r ∧ RowS s H r [r1] := by
  have hl : ∀ r ∈ [r1], r.length = s := fun r hr => h.1 r (by simp at hr; simp [hr])
  rcases h.2 with ⟨_, h⟩ | ⟨_, h⟩ | ⟨b, o, c, cs, e', k, rfl, h2, h3, h4, h5, h6⟩
  · cases h
  · cases h
  · refine ⟨.slice (some ⟨b, o + 1 * s, none⟩) 1 (c + 1), by simp [aslice, ht, hs, bound], hl, .inr (.inr ⟨b, o + 1 * s, c + 1, cs, e', k, rfl, h2, h3, h4, ?_, ?_⟩)⟩
    · have : ([r0, r1] : List (List Value)).length * s = 2 * s := rfl
      have : ([r1] : List (List Value)).length * s = 1 * s := rfl
      omega
    · intro j q r w hj hq
      have := h6 (j + 1) q r w (by rw [List.getElem?_cons_succ]; exact hj) hq
      rw [Nat.succ_mul] at this
      rw [← this]; congr 1; omega
end Go.AI
namespace Go.Proofs.Ytcpklnekpdhlmaa
open Go.AI
theorem Vt.opened {t : Tb} (v : Vt t) : Vt ⟨t.pk, t.ps, 1, t.rs⟩ := ⟨v.pk0, v.pk9, v.ps0, v.psk, by show (1 : Int) ≤ 1; decide, by show (1 : Int) ≤ 4; decide, v.len0, v.len9, v.row, fun h => by have : (3 : Int) ≤ 1 := h; omega⟩
abbrev OwnD (H : Heap) (v : Value) (l : List Dd) (B : Nat) : Prop := OwnS 54 4 H v (l.map Dl) B
theorem zeroBD : zeroBB Try.prog 54 = some (Dl ⟨0, 0, 0, 0⟩, 32) := by kernel_rfl
theorem buildD {g p n : Int} : abuild Try.prog 54 [(0, .int .i64 2), (1, .int .i64 g), (2, .int .i64 p), (3, .int .i64 n)] = some (Dv ⟨2, g, p, n⟩) := by kernel_rfl
theorem buildD1 {H : Heap} {d : Dd} : abuildSlice Try.prog H 56 1 [(0, Dv d)] = some (.slice (some ⟨H.n, 0, none⟩) 1 0, H.new (.cells (Dl d) 54 2), H.n) :=
  build_oneS (row := Dl d) un56 zeroBD (by decide) rfl
theorem buildD2 {H : Heap} {d e : Dd} : abuildSlice Try.prog H 56 2 [(0, Dv d), (1, Dv e)] = some (.slice (some ⟨H.n, 0, none⟩) 2 0, H.new (.cells (Dl d ++ Dl e) 54 2), H.n) := by kernel_rfl
theorem new_deeds {H Hs : Heap} {d e : Dd} (h : H.new (.cells (Dl d ++ Dl e) 54 2) = Hs) : Deeds Hs (.slice (some ⟨H.n, 0, none⟩) 2 0) [d, e] := by
  have : OwnD Hs (.slice (some ⟨H.n, 0, none⟩) 2 0) [d, e] H.n := ⟨fun r hr => by simp at hr; rcases hr with rfl | rfl <;> rfl, .inr ⟨H.n, rfl, Nat.le_refl _, by rw [← h]; exact Nat.lt_succ_self _, new_get h⟩⟩
  exact this.row
theorem dpush_ask {K : Value → Heap → Prop} {B B0 : Nat} {H : Heap} {x : Value} {l : List Dd} {d : Dd} (hx : OwnD H x l B0) (hB0 : B0 ≤ H.n) (hB : B ≤ B0) (hn : l.length < 1000000)
    (hk : ∀ r H', OwnD H' r (l ++ [d]) B0 → KeepBut x H H' → (∀ c, blkOf r = some c → H.n ≤ c) → K r H') :
    ∃ v H' b, aappend Try.prog (H.new (.cells (Dl d) 54 2)) #[56, 56] x (.slice (some ⟨H.n, 0, none⟩) 1 0) = some (v, H', b) ∧ B ≤ b ∧ K v H' :=
  append_askS (z := Dl ⟨0, 0, 0, 0⟩) un56 zeroBD (by decide) rfl hx hB0 hB (by rw [List.length_map]; exact hn) (fun r H' ho => hk r H' (by rw [OwnD, List.map_append]; exact ho))
theorem OwnD.box {b : Nat} {H H' : Heap} {v : Value} {l : List Dd} {B : Nat} (h : OwnD H v l B) (k : KeepX b H H') (hb : Box b H) : OwnD H' v l B := by
  obtain ⟨w, hw⟩ := hb.2; exact h.keepX k hw
theorem d2_addr0 {H : Heap} {v : Value} {d e : Dd} (h : Deeds H v [d, e]) : aindexAddr Try.prog 56 v (.int .i64 0) = some (elemS v 4 0) := dds_addr h (by decide) (by show (0 : Int) < 2; decide)
theorem d2_addr1 {H : Heap} {v : Value} {d e : Dd} (h : Deeds H v [d, e]) : aindexAddr Try.prog 56 v (.int .i64 1) = some (elemS v 4 1) := dds_addr h (by decide) (by show (1 : Int) < 2; decide)
theorem d2_load0 {H : Heap} {v : Value} {d e : Dd} (h : Deeds H v [d, e]) : aload Try.prog 54 H (elemS v 4 0) = some (Dv d) := dds_load h (j := 0) (by decide) (by show (0 : Int) < 2; decide)
theorem d2_load1 {H : Heap} {v : Value} {d e : Dd} (h : Deeds H v [d, e]) : aload Try.prog 54 H (elemS v 4 1) = some (Dv e) := dds_load h (j := 1) (by decide) (by show (1 : Int) < 2; decide)
theorem d2_field {H : Heap} {v : Value} {d e : Dd} (h : Deeds H v [d, e]) {j f : Nat} (hj : j < 2) (hf : f < 4) : afieldAddr Try.prog 54 (elemS v 4 j) f = some (fieldOf (elemS v 4 j) f) := RowS.faddr h (foD f hf) (by decide) hj
theorem d2_g0 {H : Heap} {v : Value} {d e : Dd} (h : Deeds H v [d, e]) : aload Try.prog 3 H (fieldOf (elemS v 4 0) 1) = some (VI d.gs) := RowS.fload h ag3 (j := 0) (r := Dl d) rfl rfl
theorem d2_p0 {H : Heap} {v : Value} {d e : Dd} (h : Deeds H v [d, e]) : aload Try.prog 3 H (fieldOf (elemS v 4 0) 2) = some (VI d.pc) := RowS.fload h ag3 (j := 0) (r := Dl d) rfl rfl
theorem d2_g1 {H : Heap} {v : Value} {d e : Dd} (h : Deeds H v [d, e]) : aload Try.prog 3 H (fieldOf (elemS v 4 1) 1) = some (VI e.gs) := RowS.fload h ag3 (j := 1) (r := Dl e) rfl rfl
theorem d2_p1 {H : Heap} {v : Value} {d e : Dd} (h : Deeds H v [d, e]) : aload Try.prog 3 H (fieldOf (elemS v 4 1) 2) = some (VI e.pc) := RowS.fload h ag3 (j := 1) (r := Dl e) rfl rfl
theorem d2_store {K : Heap → Prop} {H : Heap} {B B0 : Nat} {v : Value} {d e : Dd} {o : Nat} {x : Int} (h : OwnD H v [d, e] B0) (hB : B ≤ B0) (ho : o < 4)
    (hk : ∀ H', OwnS 54 4 H' v [Dl d, (Dl e).set o (VI x)] B0 → KeepBut v H H' → K H') :
    ∃ H' b, astore Try.prog 3 H (VI x) (fieldOf (elemS v 4 1) o) = some (H', b) ∧ B ≤ b ∧ K H' :=
  fstore_askS (w := VI x) (j := 1) (r := Dl e) sz3 h hB rfl ho rfl hk
theorem errs_at {H : Heap} {v : Value} {x y : Int} {B : Nat} (h : Own 37 H v ([x, y].map VI) B) :
    alen Try.prog H 65 v = some (.int .i64 2) ∧ aindexAddr Try.prog 65 v (.int .i64 0) = some (elemAt v 0) ∧ aindexAddr Try.prog 65 v (.int .i64 1) = some (elemAt v 1) ∧ aload Try.prog 37 H (elemAt v 0) = some (VI x) ∧ aload Try.prog 37 H (elemAt v 1) = some (VI y) :=
  ⟨Row.alen h.row un65, Row.addr h.row un65 sz37 (by decide) (by show (0 : Int) < 2; decide), Row.addr h.row un65 sz37 (by decide) (by show (1 : Int) < 2; decide), Row.load h.row ag37 (vs := [VI x, VI y]) (j := 0) rfl, Row.load h.row ag37 (vs := [VI x, VI y]) (j := 1) rfl⟩
def okD (t : Tb) (d : Dd) : Prop := d.kd = 2 ∧ 0 ≤ d.gs ∧ 0 ≤ d.pc ∧ okN d.nm = true
theorem two_E {t : Tb} {d e : Dd} (hd : d.kd = 2) (he : e.kd = 2) : runE t [d, e] = [doE t d, doE t e] := by
  show [doE t d, doE (doT t d) e] = _
  rw [doE_write hd he]
end Go.Proofs.Ytcpklnekpdhlmaa
