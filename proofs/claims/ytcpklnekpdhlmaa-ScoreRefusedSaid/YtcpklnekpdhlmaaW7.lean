/- Several texts in one. -/
import Derived.Test.YtcpklnekpdhlmaaW6
import Derived.Test.YtcpklnekpdhlmaaEu
set_option linter.unusedVariables false
set_option linter.unusedSimpArgs false

/- Deeds of writing, one after the other, by the program. -/
namespace Go.Proofs.Ytcpklnekpdhlmaa
open Go.AI
abbrev DF (w : Value) (f : Nat) : Value := .func (.func f) #[w] #[]
abbrev DM (w : Value) : List (Value × Value) := [(.int .i64 1, DF w 98), (.int .i64 2, DF w 99), (.int .i64 3, DF w 100), (.int .i64 4, DF w 101), (.int .i64 5, DF w 102), (.int .i64 6, DF w 103)]
theorem unM : ∃ et, Try.prog.underlying 113 = some (.map 3 et) ∧ (Try.prog.info? et).bind (·.zero) = some .nilFunc := ⟨96, by kernel_rfl, by kernel_rfl⟩
theorem insert_ask {K : Heap → Prop} {B r : Nat} {H : Heap} {es : List (Value × Value)} {q : Int} {v : Value} (hB : B ≤ r) (hg : H.get r = some (.map es)) (hf : findA (.int .i64) (.int .i64 q) es 0 = some none) (hv : notTuple v = true)
    (hk : ∀ H', H'.get r = some (.map (es ++ [(.int .i64 q, v)])) → (∀ c, c ≠ r → H'.get c = H.get c) → H'.n = H.n → K H') :
    ∃ H' b, amapUpdate Try.prog H 113 (.map (some r)) (.int .i64 q) v = some (H', b) ∧ B ≤ b ∧ K H' := by
  obtain ⟨et, hm, _⟩ := unM
  refine ⟨H.set r (.map (es ++ [(.int .i64 q, v)])), r, ?_, hB, hk _ (Heap.get_set_eq _ _ _) (fun c hc => Heap.get_set_ne _ _ (Ne.symm hc)) rfl⟩
  simp only [amapUpdate, hm, hg, un3]
  rw [if_pos ⟨rfl, hv, checkKey_int un3⟩, hf]
theorem lookup_lit {H : Heap} {r : Nat} {es : List (Value × Value)} {q : Int} {i : Nat} {v : Value} (hg : H.get r = some (.map es)) (hf : findA (.int .i64) (.int .i64 q) es 0 = some (some (i, v))) :
    alookup Try.prog H 113 (.map (some r)) (.int .i64 q) true = some (.tuple #[v, .bool true]) := by
  obtain ⟨et, hm, hz⟩ := unM
  simp only [alookup, amap, hm, hg, un3, hz]
  rw [if_pos ⟨rfl, rfl, rfl, checkKey_int un3⟩, hf]
  rfl
set_option maxRecDepth 100000 in
theorem deeds_spec {B : Nat} {H : Heap} {w : Value} (hB : B ≤ H.n) (hw : cellLike w = true) (hn : notTuple w = true) :
    CallB Try.prog B 85 [w] H (fun r H' => ∃ m, r = .map (some m) ∧ H'.get m = some (.map (DM w)) ∧ Keep H H') := by
  refine CV.enter callees false rfl Try.func85 rfl (by kernel_rfl) (Nat.le_of_ble_eq_true rfl) hB ?_
  have hc : ([w] : List Value).all cellLike = true := by simp [hw]
  repeat' first
    | refine CO.cons rfl ?_
    | refine CO.nil ?_
    | refine CV.seq ?_
    | refine CV.region callees ?_
    | refine CV.cond ?_
    | refine CV.block ?_
    | refine CV.skip ?_
    | refine CV.exit ?_
    | refine CV.ret ?_
    | refine CV.scope ?_
    | refine CV.draw callees rfl ?_
    | refine CH.cons rfl ?_
    | refine CH.nil ?_
    | refine CO.consG rfl ?_
    | refine CH.consG rfl ?_
    | refine CG.cons rfl ?_
    | refine CR.cons ?_
    | refine CR.nil ?_
    | refine CG.nil ?_
    | refine CG.consG rfl ?_
    | refine ⟨(rfl : plain _ = true), ?_⟩
    | refine ⟨(rfl : nilOk _ = some _), ?_⟩
    | refine ⟨_, ints_len (by assumption), ?_⟩
    | refine ⟨_, ints_addr (by assumption) (by omega) (by omega), ?_⟩
    | refine ⟨_, ints_load (by assumption) (by omega) (by omega), ?_⟩
    | refine ⟨(⟨by omega, by omega⟩ : inI64 _), ?_⟩
    | refine ⟨_, fun tm ha => step1_max rfl (ev_tmp ha rfl) (ev_tmp ha rfl), ?_⟩
    | refine ⟨_, fun tm ha => step1_min rfl (ev_tmp ha rfl) (ev_tmp ha rfl), ?_⟩
    | (refine ⟨hc, ?_⟩)
    | (refine ⟨(rfl : ([] : List Value).all cellLike = true), ?_⟩)
    | (refine ⟨fun _ => ?_, fun _ => ?_⟩ <;> first | (exfalso; omega) | skip)
    | fail
  generalize hs0 : H.new (.map []) = H0
  have g0 := new_get hs0
  have k0 := new_keep hs0
  have n0 := new_n hs0
  refine insert_ask (by omega) g0 rfl rfl ?_
  intro H1 g1 o1 m1
  repeat' first
    | refine CO.cons rfl ?_
    | refine CO.nil ?_
    | refine CV.seq ?_
    | refine CV.region callees ?_
    | refine CV.cond ?_
    | refine CV.block ?_
    | refine CV.skip ?_
    | refine CV.exit ?_
    | refine CV.ret ?_
    | refine CV.scope ?_
    | refine CV.draw callees rfl ?_
    | refine CH.cons rfl ?_
    | refine CH.nil ?_
    | refine CO.consG rfl ?_
    | refine CH.consG rfl ?_
    | refine CG.cons rfl ?_
    | refine CR.cons ?_
    | refine CR.nil ?_
    | refine CG.nil ?_
    | refine CG.consG rfl ?_
    | refine ⟨(rfl : plain _ = true), ?_⟩
    | refine ⟨(rfl : nilOk _ = some _), ?_⟩
    | refine ⟨_, ints_len (by assumption), ?_⟩
    | refine ⟨_, ints_addr (by assumption) (by omega) (by omega), ?_⟩
    | refine ⟨_, ints_load (by assumption) (by omega) (by omega), ?_⟩
    | refine ⟨(⟨by omega, by omega⟩ : inI64 _), ?_⟩
    | refine ⟨_, fun tm ha => step1_max rfl (ev_tmp ha rfl) (ev_tmp ha rfl), ?_⟩
    | refine ⟨_, fun tm ha => step1_min rfl (ev_tmp ha rfl) (ev_tmp ha rfl), ?_⟩
    | (refine ⟨hc, ?_⟩)
    | (refine ⟨(rfl : ([] : List Value).all cellLike = true), ?_⟩)
    | (refine ⟨fun _ => ?_, fun _ => ?_⟩ <;> first | (exfalso; omega) | skip)
    | fail
  refine insert_ask (by omega) g1 rfl rfl ?_
  intro H2 g2 o2 m2
  repeat' first
    | refine CO.cons rfl ?_
    | refine CO.nil ?_
    | refine CV.seq ?_
    | refine CV.region callees ?_
    | refine CV.cond ?_
    | refine CV.block ?_
    | refine CV.skip ?_
    | refine CV.exit ?_
    | refine CV.ret ?_
    | refine CV.scope ?_
    | refine CV.draw callees rfl ?_
    | refine CH.cons rfl ?_
    | refine CH.nil ?_
    | refine CO.consG rfl ?_
    | refine CH.consG rfl ?_
    | refine CG.cons rfl ?_
    | refine CR.cons ?_
    | refine CR.nil ?_
    | refine CG.nil ?_
    | refine CG.consG rfl ?_
    | refine ⟨(rfl : plain _ = true), ?_⟩
    | refine ⟨(rfl : nilOk _ = some _), ?_⟩
    | refine ⟨_, ints_len (by assumption), ?_⟩
    | refine ⟨_, ints_addr (by assumption) (by omega) (by omega), ?_⟩
    | refine ⟨_, ints_load (by assumption) (by omega) (by omega), ?_⟩
    | refine ⟨(⟨by omega, by omega⟩ : inI64 _), ?_⟩
    | refine ⟨_, fun tm ha => step1_max rfl (ev_tmp ha rfl) (ev_tmp ha rfl), ?_⟩
    | refine ⟨_, fun tm ha => step1_min rfl (ev_tmp ha rfl) (ev_tmp ha rfl), ?_⟩
    | (refine ⟨hc, ?_⟩)
    | (refine ⟨(rfl : ([] : List Value).all cellLike = true), ?_⟩)
    | (refine ⟨fun _ => ?_, fun _ => ?_⟩ <;> first | (exfalso; omega) | skip)
    | fail
  refine insert_ask (by omega) g2 rfl rfl ?_
  intro H3 g3 o3 m3
  repeat' first
    | refine CO.cons rfl ?_
    | refine CO.nil ?_
    | refine CV.seq ?_
    | refine CV.region callees ?_
    | refine CV.cond ?_
    | refine CV.block ?_
    | refine CV.skip ?_
    | refine CV.exit ?_
    | refine CV.ret ?_
    | refine CV.scope ?_
    | refine CV.draw callees rfl ?_
    | refine CH.cons rfl ?_
    | refine CH.nil ?_
    | refine CO.consG rfl ?_
    | refine CH.consG rfl ?_
    | refine CG.cons rfl ?_
    | refine CR.cons ?_
    | refine CR.nil ?_
    | refine CG.nil ?_
    | refine CG.consG rfl ?_
    | refine ⟨(rfl : plain _ = true), ?_⟩
    | refine ⟨(rfl : nilOk _ = some _), ?_⟩
    | refine ⟨_, ints_len (by assumption), ?_⟩
    | refine ⟨_, ints_addr (by assumption) (by omega) (by omega), ?_⟩
    | refine ⟨_, ints_load (by assumption) (by omega) (by omega), ?_⟩
    | refine ⟨(⟨by omega, by omega⟩ : inI64 _), ?_⟩
    | refine ⟨_, fun tm ha => step1_max rfl (ev_tmp ha rfl) (ev_tmp ha rfl), ?_⟩
    | refine ⟨_, fun tm ha => step1_min rfl (ev_tmp ha rfl) (ev_tmp ha rfl), ?_⟩
    | (refine ⟨hc, ?_⟩)
    | (refine ⟨(rfl : ([] : List Value).all cellLike = true), ?_⟩)
    | (refine ⟨fun _ => ?_, fun _ => ?_⟩ <;> first | (exfalso; omega) | skip)
    | fail
  refine insert_ask (by omega) g3 rfl rfl ?_
  intro H4 g4 o4 m4
  repeat' first
    | refine CO.cons rfl ?_
    | refine CO.nil ?_
    | refine CV.seq ?_
    | refine CV.region callees ?_
    | refine CV.cond ?_
    | refine CV.block ?_
    | refine CV.skip ?_
    | refine CV.exit ?_
    | refine CV.ret ?_
    | refine CV.scope ?_
    | refine CV.draw callees rfl ?_
    | refine CH.cons rfl ?_
    | refine CH.nil ?_
    | refine CO.consG rfl ?_
    | refine CH.consG rfl ?_
    | refine CG.cons rfl ?_
    | refine CR.cons ?_
    | refine CR.nil ?_
    | refine CG.nil ?_
    | refine CG.consG rfl ?_
    | refine ⟨(rfl : plain _ = true), ?_⟩
    | refine ⟨(rfl : nilOk _ = some _), ?_⟩
    | refine ⟨_, ints_len (by assumption), ?_⟩
    | refine ⟨_, ints_addr (by assumption) (by omega) (by omega), ?_⟩
    | refine ⟨_, ints_load (by assumption) (by omega) (by omega), ?_⟩
    | refine ⟨(⟨by omega, by omega⟩ : inI64 _), ?_⟩
    | refine ⟨_, fun tm ha => step1_max rfl (ev_tmp ha rfl) (ev_tmp ha rfl), ?_⟩
    | refine ⟨_, fun tm ha => step1_min rfl (ev_tmp ha rfl) (ev_tmp ha rfl), ?_⟩
    | (refine ⟨hc, ?_⟩)
    | (refine ⟨(rfl : ([] : List Value).all cellLike = true), ?_⟩)
    | (refine ⟨fun _ => ?_, fun _ => ?_⟩ <;> first | (exfalso; omega) | skip)
    | fail
  refine insert_ask (by omega) g4 rfl rfl ?_
  intro H5 g5 o5 m5
  repeat' first
    | refine CO.cons rfl ?_
    | refine CO.nil ?_
    | refine CV.seq ?_
    | refine CV.region callees ?_
    | refine CV.cond ?_
    | refine CV.block ?_
    | refine CV.skip ?_
    | refine CV.exit ?_
    | refine CV.ret ?_
    | refine CV.scope ?_
    | refine CV.draw callees rfl ?_
    | refine CH.cons rfl ?_
    | refine CH.nil ?_
    | refine CO.consG rfl ?_
    | refine CH.consG rfl ?_
    | refine CG.cons rfl ?_
    | refine CR.cons ?_
    | refine CR.nil ?_
    | refine CG.nil ?_
    | refine CG.consG rfl ?_
    | refine ⟨(rfl : plain _ = true), ?_⟩
    | refine ⟨(rfl : nilOk _ = some _), ?_⟩
    | refine ⟨_, ints_len (by assumption), ?_⟩
    | refine ⟨_, ints_addr (by assumption) (by omega) (by omega), ?_⟩
    | refine ⟨_, ints_load (by assumption) (by omega) (by omega), ?_⟩
    | refine ⟨(⟨by omega, by omega⟩ : inI64 _), ?_⟩
    | refine ⟨_, fun tm ha => step1_max rfl (ev_tmp ha rfl) (ev_tmp ha rfl), ?_⟩
    | refine ⟨_, fun tm ha => step1_min rfl (ev_tmp ha rfl) (ev_tmp ha rfl), ?_⟩
    | (refine ⟨hc, ?_⟩)
    | (refine ⟨(rfl : ([] : List Value).all cellLike = true), ?_⟩)
    | (refine ⟨fun _ => ?_, fun _ => ?_⟩ <;> first | (exfalso; omega) | skip)
    | fail
  refine insert_ask (by omega) g5 rfl rfl ?_
  intro H6 g6 o6 m6
  repeat' first
    | refine CO.cons rfl ?_
    | refine CO.nil ?_
    | refine CV.seq ?_
    | refine CV.region callees ?_
    | refine CV.cond ?_
    | refine CV.block ?_
    | refine CV.skip ?_
    | refine CV.exit ?_
    | refine CV.ret ?_
    | refine CV.scope ?_
    | refine CV.draw callees rfl ?_
    | refine CH.cons rfl ?_
    | refine CH.nil ?_
    | refine CO.consG rfl ?_
    | refine CH.consG rfl ?_
    | refine CG.cons rfl ?_
    | refine CR.cons ?_
    | refine CR.nil ?_
    | refine CG.nil ?_
    | refine CG.consG rfl ?_
    | refine ⟨(rfl : plain _ = true), ?_⟩
    | refine ⟨(rfl : nilOk _ = some _), ?_⟩
    | refine ⟨_, ints_len (by assumption), ?_⟩
    | refine ⟨_, ints_addr (by assumption) (by omega) (by omega), ?_⟩
    | refine ⟨_, ints_load (by assumption) (by omega) (by omega), ?_⟩
    | refine ⟨(⟨by omega, by omega⟩ : inI64 _), ?_⟩
    | refine ⟨_, fun tm ha => step1_max rfl (ev_tmp ha rfl) (ev_tmp ha rfl), ?_⟩
    | refine ⟨_, fun tm ha => step1_min rfl (ev_tmp ha rfl) (ev_tmp ha rfl), ?_⟩
    | (refine ⟨fun _ => ?_, fun _ => ?_⟩ <;> first | (exfalso; omega) | skip)
    | fail
  exact ⟨rfl, H.n, rfl, g6, keep_put (keep_put (keep_put (keep_put (keep_put (keep_put k0 (Nat.le_refl _) o1 m1) (Nat.le_refl _) o2 m2) (Nat.le_refl _) o3 m3) (Nat.le_refl _) o4 m4) (Nat.le_refl _) o5 m5) (Nat.le_refl _) o6 m6⟩
theorem un65 : Try.prog.underlying 65 = some (.slice 37) := by kernel_rfl
theorem one37 : oneBB Try.prog 37 = some (.int .i64 0, 8) := by kernel_rfl
theorem ag65 : isAggB Try.prog 65 = some false := by kernel_rfl
theorem sz65 : sizeB Try.prog 65 = some 1 := by kernel_rfl
theorem ag37 : isAggB Try.prog 37 = some false := by kernel_rfl
theorem sz37 : sizeB Try.prog 37 = some 1 := by kernel_rfl
theorem zero65 : zeroCells Try.prog 65 = some [.slice none 0 0] := by kernel_rfl
theorem alloc65 {H : Heap} : sAlloc Try.prog H 65 = some (.pointer (some ⟨H.n, 0, none⟩), H.new (.cells [.slice none 0 0] 65 1), H.n) := alloc_of zero65
theorem load65 {H : Heap} {b : Nat} {v : Value} (hg : H.get b = some (.cells [v] 65 1)) : aload Try.prog 65 H (.pointer (some ⟨b, 0, none⟩)) = some v := cell_load ag65 hg rfl
set_option maxRecDepth 100000 in
theorem gather_spec {B B1 br : Nat} {H : Heap} {e : Int} {ev : Value} {es : List Int} (hB : B ≤ br) (hBn : B ≤ B1) (hB1 : B1 ≤ H.n) (hbr : br < B1) (hn : es.length < 1000) (hg : H.get br = some (.cells [ev] 65 1)) (hev : Own 37 H ev (es.map VI) B1) :
    CallB Try.prog B 68 [.int .i64 e, .pointer (some ⟨br, 0, none⟩)] H (fun _ H' => (∃ ev', H'.get br = some (.cells [ev'] 65 1) ∧ Own 37 H' ev' ((es ++ [e]).map VI) B1) ∧ H.n ≤ H'.n ∧ ∀ c, c < B1 → c ≠ br → H'.get c = H.get c) := by
  refine CV.enter callees false rfl Try.func68 rfl (by kernel_rfl) (Nat.le_of_ble_eq_true rfl) (by omega) ?_
  repeat' first
    | refine CO.cons rfl ?_
    | refine CO.nil ?_
    | refine CV.seq ?_
    | refine CV.region callees ?_
    | refine CV.cond ?_
    | refine CV.block ?_
    | refine CV.skip ?_
    | refine CV.exit ?_
    | refine CV.ret ?_
    | refine CV.scope ?_
    | refine CV.draw callees rfl ?_
    | refine CH.cons rfl ?_
    | refine CH.nil ?_
    | refine CO.consG rfl ?_
    | refine CH.consG rfl ?_
    | refine CG.cons rfl ?_
    | refine CR.cons ?_
    | refine CR.nil ?_
    | refine CG.nil ?_
    | refine CG.consG rfl ?_
    | refine ⟨(rfl : plain _ = true), ?_⟩
    | refine ⟨(rfl : nilOk _ = some _), ?_⟩
    | refine ⟨_, ints_len (by assumption), ?_⟩
    | refine ⟨_, ints_addr (by assumption) (by omega) (by omega), ?_⟩
    | refine ⟨_, ints_load (by assumption) (by omega) (by omega), ?_⟩
    | refine ⟨(⟨by omega, by omega⟩ : inI64 _), ?_⟩
    | refine ⟨_, fun tm ha => step1_max rfl (ev_tmp ha rfl) (ev_tmp ha rfl), ?_⟩
    | refine ⟨_, fun tm ha => step1_min rfl (ev_tmp ha rfl) (ev_tmp ha rfl), ?_⟩
    | (refine ⟨_, load65 hg, ?_⟩)
    | (refine ⟨_, _, build_one un65 one37 rfl, ?_⟩)
    | (refine ⟨fun _ => ?_, fun _ => ?_⟩ <;> first | (exfalso; omega) | skip)
    | fail
  refine append_ask un65 one37 (by omega) hev hB1 (by omega) (by rw [List.length_map]; omega) ?_
  intro r H1 ho kb hf
  have l1 := kb.le
  have hg1 : H1.get br = some (.cells [ev] 65 1) := by rw [kb.get br (by omega) (fun h => by have := (hev.lt h).1; omega)]; exact hg
  repeat' first
    | refine CO.cons rfl ?_
    | refine CO.nil ?_
    | refine CV.seq ?_
    | refine CV.region callees ?_
    | refine CV.cond ?_
    | refine CV.block ?_
    | refine CV.skip ?_
    | refine CV.exit ?_
    | refine CV.ret ?_
    | refine CV.scope ?_
    | refine CV.draw callees rfl ?_
    | refine CH.cons rfl ?_
    | refine CH.nil ?_
    | refine CO.consG rfl ?_
    | refine CH.consG rfl ?_
    | refine CG.cons rfl ?_
    | refine CR.cons ?_
    | refine CR.nil ?_
    | refine CG.nil ?_
    | refine CG.consG rfl ?_
    | refine ⟨(rfl : plain _ = true), ?_⟩
    | refine ⟨(rfl : nilOk _ = some _), ?_⟩
    | refine ⟨_, ints_len (by assumption), ?_⟩
    | refine ⟨_, ints_addr (by assumption) (by omega) (by omega), ?_⟩
    | refine ⟨_, ints_load (by assumption) (by omega) (by omega), ?_⟩
    | refine ⟨(⟨by omega, by omega⟩ : inI64 _), ?_⟩
    | refine ⟨_, fun tm ha => step1_max rfl (ev_tmp ha rfl) (ev_tmp ha rfl), ?_⟩
    | refine ⟨_, fun tm ha => step1_min rfl (ev_tmp ha rfl) (ev_tmp ha rfl), ?_⟩
    | (refine ⟨fun _ => ?_, fun _ => ?_⟩ <;> first | (exfalso; omega) | skip)
    | fail
  refine ⟨_, _, cell_store (cs := [ev]) sz65 hg1 (Nat.le_of_ble_eq_true rfl) ho.row.oneC.1, by omega, ?_⟩
  generalize hs2 : H1.set br _ = H2
  have hg2 : H2.get br = some (.cells [r] 65 1) := set_get hs2
  have n2 := set_n hs2
  have o2 := set_old hs2
  repeat' first
    | refine CO.cons rfl ?_
    | refine CO.nil ?_
    | refine CV.seq ?_
    | refine CV.region callees ?_
    | refine CV.cond ?_
    | refine CV.block ?_
    | refine CV.skip ?_
    | refine CV.exit ?_
    | refine CV.ret ?_
    | refine CV.scope ?_
    | refine CV.draw callees rfl ?_
    | refine CH.cons rfl ?_
    | refine CH.nil ?_
    | refine CO.consG rfl ?_
    | refine CH.consG rfl ?_
    | refine CG.cons rfl ?_
    | refine CR.cons ?_
    | refine CR.nil ?_
    | refine CG.nil ?_
    | refine CG.consG rfl ?_
    | refine ⟨(rfl : plain _ = true), ?_⟩
    | refine ⟨(rfl : nilOk _ = some _), ?_⟩
    | refine ⟨_, ints_len (by assumption), ?_⟩
    | refine ⟨_, ints_addr (by assumption) (by omega) (by omega), ?_⟩
    | refine ⟨_, ints_load (by assumption) (by omega) (by omega), ?_⟩
    | refine ⟨(⟨by omega, by omega⟩ : inI64 _), ?_⟩
    | refine ⟨_, fun tm ha => step1_max rfl (ev_tmp ha rfl) (ev_tmp ha rfl), ?_⟩
    | refine ⟨_, fun tm ha => step1_min rfl (ev_tmp ha rfl) (ev_tmp ha rfl), ?_⟩
    | (refine ⟨fun _ => ?_, fun _ => ?_⟩ <;> first | (exfalso; omega) | skip)
    | fail
  refine ⟨?_, ⟨r, hg2, ?_⟩, by omega, fun c hc hcb => ?_⟩
  · first | rfl | trivial
  · rw [List.map_append]
    exact ho.keepX (b := br) (cs0 := [ev]) (e0 := 65) ⟨by omega, fun c _ hc => o2 c hc⟩ hg1
  · rw [o2 c hcb, kb.get c (by omega) (fun h => by have := (hev.lt h).1; omega)]
end Go.Proofs.Ytcpklnekpdhlmaa



/- All deeds of writing, by the program. -/
namespace Go.Proofs.Ytcpklnekpdhlmaa
open Go.AI
theorem un56 : Try.prog.underlying 56 = some (.slice 54) := by kernel_rfl
theorem zeroD : zeroCells Try.prog 54 = some (Dl ⟨0, 0, 0, 0⟩) := by kernel_rfl
theorem allocD {H : Heap} : sAlloc Try.prog H 54 = some (.pointer (some ⟨H.n, 0, none⟩), H.new (Dc ⟨0, 0, 0, 0⟩), H.n) := alloc_of zeroD
theorem storeD {H : Heap} {b : Nat} {d d' : Dd} (hg : H.get b = some (Dc d)) : astore Try.prog 54 H (Dv d') (.pointer (some ⟨b, 0, none⟩)) = some (H.set b (Dc d'), b) :=
  store_all (vs := Dl d') hg rfl szD rfl
instance : Inhabited Dd := ⟨⟨0, 0, 0, 0⟩⟩
abbrev Deeds (H : Heap) (v : Value) (ds : List Dd) : Prop := RowS 4 H v (ds.map Dl)
theorem dd_at {ds : List Dd} {j : Nat} (h : j < ds.length) : (ds.map Dl)[j]? = some (Dl ds[j]!) := by
  rw [List.getElem?_map, List.getElem?_eq_getElem h, getElem!_pos ds j h]; rfl
theorem dds_len {H : Heap} {v : Value} {ds : List Dd} (h : Deeds H v ds) : alen Try.prog H 56 v = some (.int .i64 ds.length) := by
  have := RowS.alen h un56
  rwa [List.length_map] at this
theorem dds_addr {H : Heap} {v : Value} {ds : List Dd} (h : Deeds H v ds) {j : Int} (h0 : 0 ≤ j) (h1 : j < ds.length) : aindexAddr Try.prog 56 v (.int .i64 j) = some (elemS v 4 j.toNat) :=
  RowS.addr h un56 szD h0 (by rw [List.length_map]; exact h1)
theorem dds_load {H : Heap} {v : Value} {ds : List Dd} (h : Deeds H v ds) {j : Int} (h0 : 0 ≤ j) (h1 : j < ds.length) : aload Try.prog 54 H (elemS v 4 j.toNat) = some (Dv ds[j.toNat]!) :=
  RowS.load h agD szD (dd_at (by omega))
theorem OwnG.low {H : Heap} {r : Value} {vals : List Value} {ls : List (List Int)} {B B' : Nat} (h : OwnG H r vals ls B) (hB : B' ≤ B) : OwnG H r vals ls B' :=
  ⟨h.own.low hB, h.len, fun i hi => (h.at' i hi).low hB, h.ap⟩
theorem Work.low {H : Heap} {bw : Nat} {A : Value} {vals : List Value} {t : Tb} {B B' : Nat} (h : Work H bw A vals t B) (hB : B' ≤ B) : Work H bw A vals t B' :=
  ⟨h.get, Nat.le_trans hB h.lo, h.lt, h.own.low hB, h.aw, h.vw, h.sep⟩
/-- A table at work is left alone by what changes other memory. -/
theorem Work.frame {H H' : Heap} {bw : Nat} {A : Value} {vals : List Value} {t : Tb} {B B1 : Nat} (h : Work H bw A vals t B) (hn : H.n ≤ H'.n) (hb : bw < B1) (hA : ∀ c, blkOf A = some c → c < B1) (hr : ∀ i : Nat, i < t.rs.length → ∀ c, blkOf vals[i]! = some c → c < B1) {br : Nat} (hbr : B1 ≤ br)
    (hk : ∀ c, c < B1 → H'.get c = H.get c) : Work H' bw A vals t B := by
  have ho : ∀ {e : TypeId} {v : Value} {vs : List Value}, Own e H v vs B → (∀ c, blkOf v = some c → c < B1) → Own e H' v vs B := fun h1 h2 => by
    rcases h1 with h1 | ⟨b, rfl, h3, h4, h5⟩
    · exact .inl h1
    · exact .inr ⟨b, rfl, h3, Nat.lt_of_lt_of_le h4 hn, by rw [hk b (h2 b rfl)]; exact h5⟩
  exact ⟨by rw [hk bw hb]; exact h.get, h.lo, Nat.lt_of_lt_of_le h.lt hn, ⟨ho h.own.own hA, h.own.len, fun i hi => ho (h.own.at' i hi) (hr i hi), h.own.ap⟩, h.aw, h.vw, h.sep⟩
theorem run_take {t : Tb} {ds : List Dd} {i : Nat} (h : i < ds.length) : runT t (ds.take (i + 1)) = doT (runT t (ds.take i)) ds[i]! ∧ runE t (ds.take (i + 1)) = runE t (ds.take i) ++ [doE (runT t (ds.take i)) ds[i]!] := by
  have e : ds.take (i + 1) = ds.take i ++ [ds[i]!] := by rw [List.take_add_one, List.getElem?_eq_getElem h, getElem!_pos ds i h]; rfl
  rw [e]
  exact ⟨runT_snoc _ _ _, runE_snoc _ _ _⟩
end Go.Proofs.Ytcpklnekpdhlmaa



/- Tables that are made of numbers. -/
namespace Go.Proofs.Ytcpklnekpdhlmaa
open Go.AI
theorem buildT {p s : Int} : abuild Try.prog 52 [(0, .int .i64 p), (2, .int .i64 s)] = some (Tv ⟨p, 0, s, []⟩ (.slice none 0 0)) := by kernel_rfl
theorem OwnG.keepXc {b : Nat} {H H' : Heap} {r : Value} {vals : List Value} {ls : List (List Int)} {B : Nat} {cs0 : List Value} {e0 : TypeId} (h : OwnG H r vals ls B) (k : KeepX b H H') (hb : H.get b = some (.cells cs0 e0 1)) : OwnG H' r vals ls B :=
  ⟨h.own.keepX k hb, h.len, fun i hi => (h.at' i hi).keepX k hb, h.ap⟩
theorem four_at {x : Int} {i : Nat} (h : i < ([1, 1, 1, x] : List Int).length) (hx : 1 ≤ x ∧ x ≤ 4) : 1 ≤ ([1, 1, 1, x] : List Int)[i]! ∧ ([1, 1, 1, x] : List Int)[i]! ≤ 4 := by
  match i, h with
  | 0, _ => exact ⟨by show (1 : Int) ≤ 1; decide, by show (1 : Int) ≤ 4; decide⟩
  | 1, _ => exact ⟨by show (1 : Int) ≤ 1; decide, by show (1 : Int) ≤ 4; decide⟩
  | 2, _ => exact ⟨by show (1 : Int) ≤ 1; decide, by show (1 : Int) ≤ 4; decide⟩
  | 3, _ => exact hx
def goodR (pk ps : Int) (xs : List Int) : Prop := ∀ j, j < xs.length → okN xs[j]! = true ∧ (ps ≤ j → xs[j]! = -1)
theorem goodR.push {pk ps y : Int} {xs : List Int} (h : goodR pk ps xs) (hy : okN y = true) (hp : ps ≤ xs.length → y = -1) : goodR pk ps (xs ++ [y]) := fun j hj => by
  rw [at_snoc]
  rw [List.length_append, List.length_singleton] at hj
  by_cases e : j < xs.length
  · rw [if_pos e]; exact h j e
  · have : j = xs.length := by omega
    subst this
    rw [if_neg e, if_pos rfl]; exact ⟨hy, hp⟩
theorem rows_push {pk ps : Int} {xs : List Int} {ls : List (List Int)} (h : ∀ i : Nat, i < ls.length → (ls[i]!.length : Int) = pk ∧ goodR pk ps ls[i]!) (hx : (xs.length : Int) = pk ∧ goodR pk ps xs) :
    ∀ i : Nat, i < (ls ++ [xs]).length → ((ls ++ [xs])[i]!.length : Int) = pk ∧ goodR pk ps (ls ++ [xs])[i]! := fun i hi => by
  rw [at_snoc]
  rw [List.length_append, List.length_singleton] at hi
  by_cases h1 : i < ls.length
  · rw [if_pos h1]; exact h i h1
  · rw [if_neg h1, if_pos (by omega)]; exact hx
set_option maxHeartbeats 4000000 in
set_option maxRecDepth 100000 in
theorem tableOf_spec {B b : Nat} {H : Heap} {mp mg : Int} (hB : B ≤ b) (hn : B ≤ H.n) (hb : Box b H) (p0 : 1 ≤ mp) (p1 : mp ≤ 9) (q0 : 1 ≤ mg) (q1 : mg ≤ 12) :
    CallB Try.prog B 30 [bp b, .int .i64 mp, .int .i64 mg] H (fun r H' => (∃ t A vals, r = Tv t A ∧ Vt t ∧ OwnG H' A vals t.rs H.n) ∧ Box b H' ∧ KeepX b H H') := by
  have hbn := hb.1
  refine CV.enter callees false rfl Try.func30 rfl (by kernel_rfl) (Nat.le_of_ble_eq_true rfl) hn ?_
  repeat' first
    | refine CO.cons rfl ?_
    | refine CO.nil ?_
    | refine CV.seq ?_
    | refine CV.region callees ?_
    | refine CV.cond ?_
    | refine CV.block ?_
    | refine CV.skip ?_
    | refine CV.exit ?_
    | refine CV.ret ?_
    | refine CV.scope ?_
    | refine CV.draw callees rfl ?_
    | refine CH.cons rfl ?_
    | refine CH.nil ?_
    | refine CO.consG rfl ?_
    | refine CH.consG rfl ?_
    | refine CG.cons rfl ?_
    | refine CR.cons ?_
    | refine CR.nil ?_
    | refine CG.nil ?_
    | refine CG.consG rfl ?_
    | refine ⟨(rfl : plain _ = true), ?_⟩
    | refine ⟨(rfl : nilOk _ = some _), ?_⟩
    | refine ⟨_, ints_len (by assumption), ?_⟩
    | refine ⟨_, ints_addr (by assumption) (by omega) (by omega), ?_⟩
    | refine ⟨_, ints_load (by assumption) (by omega) (by omega), ?_⟩
    | refine ⟨(⟨by omega, by omega⟩ : inI64 _), ?_⟩
    | refine ⟨_, fun tm ha => step1_max rfl (ev_tmp ha rfl) (ev_tmp ha rfl), ?_⟩
    | refine ⟨_, fun tm ha => step1_min rfl (ev_tmp ha rfl) (ev_tmp ha rfl), ?_⟩
    | (refine ⟨_, _, allocT, ?_⟩)
    | (refine ⟨fun _ => ?_, fun _ => ?_⟩ <;> first | (exfalso; omega) | skip)
    | fail
  generalize hs0 : H.new (Tc T0 (.slice none 0 0)) = H0
  have hgr := new_get hs0
  have k0 := new_keep hs0
  have n0 := new_n hs0
  have hb0 := hb.keep k0
  repeat' first
    | refine CO.cons rfl ?_
    | refine CO.nil ?_
    | refine CV.seq ?_
    | refine CV.region callees ?_
    | refine CV.cond ?_
    | refine CV.block ?_
    | refine CV.skip ?_
    | refine CV.exit ?_
    | refine CV.ret ?_
    | refine CV.scope ?_
    | refine CV.draw callees rfl ?_
    | refine CH.cons rfl ?_
    | refine CH.nil ?_
    | refine CO.consG rfl ?_
    | refine CH.consG rfl ?_
    | refine CG.cons rfl ?_
    | refine CR.cons ?_
    | refine CR.nil ?_
    | refine CG.nil ?_
    | refine CG.consG rfl ?_
    | refine ⟨(rfl : plain _ = true), ?_⟩
    | refine ⟨(rfl : nilOk _ = some _), ?_⟩
    | refine ⟨_, ints_len (by assumption), ?_⟩
    | refine ⟨_, ints_addr (by assumption) (by omega) (by omega), ?_⟩
    | refine ⟨_, ints_load (by assumption) (by omega) (by omega), ?_⟩
    | refine ⟨(⟨by omega, by omega⟩ : inI64 _), ?_⟩
    | refine ⟨_, fun tm ha => step1_max rfl (ev_tmp ha rfl) (ev_tmp ha rfl), ?_⟩
    | refine ⟨_, fun tm ha => step1_min rfl (ev_tmp ha rfl) (ev_tmp ha rfl), ?_⟩
    | (refine ⟨fun _ => ?_, fun _ => ?_⟩ <;> first | (exfalso; omega) | skip)
    | fail
  refine (any_spec hB (by omega) hb0 (by omega) (by omega) (by omega)).mono ?_
  rintro r H1 ⟨⟨pk, rfl, pk0, pk1⟩, hb1, x1⟩
  have l1 := x1.1
  repeat' first
    | refine CO.cons rfl ?_
    | refine CO.nil ?_
    | refine CV.seq ?_
    | refine CV.region callees ?_
    | refine CV.cond ?_
    | refine CV.block ?_
    | refine CV.skip ?_
    | refine CV.exit ?_
    | refine CV.ret ?_
    | refine CV.scope ?_
    | refine CV.draw callees rfl ?_
    | refine CH.cons rfl ?_
    | refine CH.nil ?_
    | refine CO.consG rfl ?_
    | refine CH.consG rfl ?_
    | refine CG.cons rfl ?_
    | refine CR.cons ?_
    | refine CR.nil ?_
    | refine CG.nil ?_
    | refine CG.consG rfl ?_
    | refine ⟨(rfl : plain _ = true), ?_⟩
    | refine ⟨(rfl : nilOk _ = some _), ?_⟩
    | refine ⟨_, ints_len (by assumption), ?_⟩
    | refine ⟨_, ints_addr (by assumption) (by omega) (by omega), ?_⟩
    | refine ⟨_, ints_load (by assumption) (by omega) (by omega), ?_⟩
    | refine ⟨(⟨by omega, by omega⟩ : inI64 _), ?_⟩
    | refine ⟨_, fun tm ha => step1_max rfl (ev_tmp ha rfl) (ev_tmp ha rfl), ?_⟩
    | refine ⟨_, fun tm ha => step1_min rfl (ev_tmp ha rfl) (ev_tmp ha rfl), ?_⟩
    | (refine ⟨fun _ => ?_, fun _ => ?_⟩ <;> first | (exfalso; omega) | skip)
    | fail
  refine (any_spec hB (by omega) hb1 (by omega) (by omega) (by omega)).mono ?_
  rintro r H2 ⟨⟨s, rfl, s0, s1⟩, hb2, x2⟩
  have l2 := x2.1
  repeat' first
    | refine CO.cons rfl ?_
    | refine CO.nil ?_
    | refine CV.seq ?_
    | refine CV.region callees ?_
    | refine CV.cond ?_
    | refine CV.block ?_
    | refine CV.skip ?_
    | refine CV.exit ?_
    | refine CV.ret ?_
    | refine CV.scope ?_
    | refine CV.draw callees rfl ?_
    | refine CH.cons rfl ?_
    | refine CH.nil ?_
    | refine CO.consG rfl ?_
    | refine CH.consG rfl ?_
    | refine CG.cons rfl ?_
    | refine CR.cons ?_
    | refine CR.nil ?_
    | refine CG.nil ?_
    | refine CG.consG rfl ?_
    | refine ⟨(rfl : plain _ = true), ?_⟩
    | refine ⟨(rfl : nilOk _ = some _), ?_⟩
    | refine ⟨_, ints_len (by assumption), ?_⟩
    | refine ⟨_, ints_addr (by assumption) (by omega) (by omega), ?_⟩
    | refine ⟨_, ints_load (by assumption) (by omega) (by omega), ?_⟩
    | refine ⟨(⟨by omega, by omega⟩ : inI64 _), ?_⟩
    | refine ⟨_, fun tm ha => step1_max rfl (ev_tmp ha rfl) (ev_tmp ha rfl), ?_⟩
    | refine ⟨_, fun tm ha => step1_min rfl (ev_tmp ha rfl) (ev_tmp ha rfl), ?_⟩
    | refine ⟨_, _, build_vals [VI 1, VI 1, VI 1, VI s] un22 one3 rfl (Nat.le_of_ble_eq_true rfl), ?_⟩
    | (refine ⟨fun _ => ?_, fun _ => ?_⟩ <;> first | (exfalso; omega) | skip)
    | fail
  generalize hs3 : Heap.new _ _ = H3
  have hw3 : Ints H3 (.slice (some ⟨H2.n, 0, none⟩) 4 0) [1, 1, 1, s] := by rw [← hs3]; exact new_row rfl
  have k3 := new_keep hs3
  have hb3 := hb2.keep k3
  have l3 := k3.1
  refine (pick_spec hB (by omega) hb3 hw3 (Nat.le_of_ble_eq_true rfl) (Nat.le_of_ble_eq_true rfl)).mono ?_
  rintro r H4 ⟨⟨i1, hi1, rfl⟩, hb4, x4⟩
  have l4 := x4.1
  have t4 := four_at hi1 ⟨s0, s1⟩
  generalize ([1, 1, 1, s] : List Int)[i1]! = st at t4 ⊢
  have xx4 : KeepX b H0 H4 := ((x1.trans x2).trans (k3.butX b)).trans x4
  have xh4 : KeepX b H H4 := (k0.butX b).trans xx4
  repeat' first
    | refine CO.cons rfl ?_
    | refine CO.nil ?_
    | refine CV.seq ?_
    | refine CV.region callees ?_
    | refine CV.cond ?_
    | refine CV.block ?_
    | refine CV.skip ?_
    | refine CV.exit ?_
    | refine CV.ret ?_
    | refine CV.scope ?_
    | refine CV.draw callees rfl ?_
    | refine CH.cons rfl ?_
    | refine CH.nil ?_
    | refine CO.consG rfl ?_
    | refine CH.consG rfl ?_
    | refine CG.cons rfl ?_
    | refine CR.cons ?_
    | refine CR.nil ?_
    | refine CG.nil ?_
    | refine CG.consG rfl ?_
    | refine ⟨(rfl : plain _ = true), ?_⟩
    | refine ⟨(rfl : nilOk _ = some _), ?_⟩
    | refine ⟨_, ints_len (by assumption), ?_⟩
    | refine ⟨_, ints_addr (by assumption) (by omega) (by omega), ?_⟩
    | refine ⟨_, ints_load (by assumption) (by omega) (by omega), ?_⟩
    | refine ⟨(⟨by omega, by omega⟩ : inI64 _), ?_⟩
    | refine ⟨_, fun tm ha => step1_max rfl (ev_tmp ha rfl) (ev_tmp ha rfl), ?_⟩
    | refine ⟨_, fun tm ha => step1_min rfl (ev_tmp ha rfl) (ev_tmp ha rfl), ?_⟩
    | (refine ⟨_, buildT, ?_⟩)
    | (refine ⟨_, _, allocT, ?_⟩)
    | (refine ⟨fun _ => ?_, fun _ => ?_⟩ <;> first | (exfalso; omega) | skip)
    | fail
  generalize hs5 : H4.new (Tc T0 (.slice none 0 0)) = H5
  have hg5 := new_get hs5
  have k5 := new_keep hs5
  have n5 := new_n hs5
  obtain ⟨bt, hbt⟩ : ∃ bt, H4.n = bt := ⟨_, rfl⟩
  rw [hbt] at hg5 n5 ⊢
  refine ⟨_, _, storeT (t' := ⟨pk, 0, st, []⟩) (A' := .slice none 0 0) rfl hg5, by omega, ?_⟩
  generalize hs6 : H5.set bt _ = H6
  have hg6 : H6.get bt = some (Tc ⟨pk, 0, st, []⟩ (.slice none 0 0)) := set_get hs6
  have n6 := set_n hs6
  have xh6 : KeepX b H H6 := keepX_put (xh4.trans (k5.butX b)) (by omega) (set_old hs6) n6
  have hb4n := hb4.1
  have hb6 : Box b H6 := box_put (hb4.keep k5) (by omega) (set_old hs6) n6
  have hr6 : H6.get H.n = some (Tc T0 (.slice none 0 0)) := by rw [set_old hs6 H.n (by omega), k5.2 H.n (by omega), xx4.2 H.n (by omega) (by omega)]; exact hgr
  repeat' first
    | refine CO.cons rfl ?_
    | refine CO.nil ?_
    | refine CV.seq ?_
    | refine CV.region callees ?_
    | refine CV.cond ?_
    | refine CV.block ?_
    | refine CV.skip ?_
    | refine CV.exit ?_
    | refine CV.ret ?_
    | refine CV.scope ?_
    | refine CV.draw callees rfl ?_
    | refine CH.cons rfl ?_
    | refine CH.nil ?_
    | refine CO.consG rfl ?_
    | refine CH.consG rfl ?_
    | refine CG.cons rfl ?_
    | refine CR.cons ?_
    | refine CR.nil ?_
    | refine CG.nil ?_
    | refine CG.consG rfl ?_
    | refine ⟨(rfl : plain _ = true), ?_⟩
    | refine ⟨(rfl : nilOk _ = some _), ?_⟩
    | refine ⟨_, ints_len (by assumption), ?_⟩
    | refine ⟨_, ints_addr (by assumption) (by omega) (by omega), ?_⟩
    | refine ⟨_, ints_load (by assumption) (by omega) (by omega), ?_⟩
    | refine ⟨(⟨by omega, by omega⟩ : inI64 _), ?_⟩
    | refine ⟨_, fun tm ha => step1_max rfl (ev_tmp ha rfl) (ev_tmp ha rfl), ?_⟩
    | refine ⟨_, fun tm ha => step1_min rfl (ev_tmp ha rfl) (ev_tmp ha rfl), ?_⟩
    | (refine ⟨_, addrT (by decide), ?_⟩)
    | (refine ⟨VI pk, cell_load ag3 hg6 rfl, ?_⟩)
    | (refine ⟨fun _ => ?_, fun _ => ?_⟩ <;> first | (exfalso; omega) | skip)
    | fail
  refine (any_spec hB (by omega) hb6 (by omega) (by omega) (by omega)).mono ?_
  rintro r H7 ⟨⟨ps, rfl, ps0, ps1⟩, hb7, x7⟩
  have l7 := x7.1
  have hg7 : H7.get bt = some (Tc ⟨pk, 0, st, []⟩ (.slice none 0 0)) := by rw [x7.2 bt (by omega) (by omega)]; exact hg6
  have hr7 : H7.get H.n = some (Tc T0 (.slice none 0 0)) := by rw [x7.2 H.n (by omega) (by omega)]; exact hr6
  repeat' first
    | refine CO.cons rfl ?_
    | refine CO.nil ?_
    | refine CV.seq ?_
    | refine CV.region callees ?_
    | refine CV.cond ?_
    | refine CV.block ?_
    | refine CV.skip ?_
    | refine CV.exit ?_
    | refine CV.ret ?_
    | refine CV.scope ?_
    | refine CV.draw callees rfl ?_
    | refine CH.cons rfl ?_
    | refine CH.nil ?_
    | refine CO.consG rfl ?_
    | refine CH.consG rfl ?_
    | refine CG.cons rfl ?_
    | refine CR.cons ?_
    | refine CR.nil ?_
    | refine CG.nil ?_
    | refine CG.consG rfl ?_
    | refine ⟨(rfl : plain _ = true), ?_⟩
    | refine ⟨(rfl : nilOk _ = some _), ?_⟩
    | refine ⟨_, ints_len (by assumption), ?_⟩
    | refine ⟨_, ints_addr (by assumption) (by omega) (by omega), ?_⟩
    | refine ⟨_, ints_load (by assumption) (by omega) (by omega), ?_⟩
    | refine ⟨(⟨by omega, by omega⟩ : inI64 _), ?_⟩
    | refine ⟨_, fun tm ha => step1_max rfl (ev_tmp ha rfl) (ev_tmp ha rfl), ?_⟩
    | refine ⟨_, fun tm ha => step1_min rfl (ev_tmp ha rfl) (ev_tmp ha rfl), ?_⟩
    | (refine ⟨_, addrT (by decide), ?_⟩)
    | (refine ⟨fun _ => ?_, fun _ => ?_⟩ <;> first | (exfalso; omega) | skip)
    | fail
  refine ⟨_, _, cell_store sz3 hg7 (Nat.le_of_ble_eq_true rfl) rfl, by omega, ?_⟩
  generalize hs8 : H7.set bt _ = H8
  have hg8 : H8.get bt = some (Tc ⟨pk, ps, st, []⟩ (.slice none 0 0)) := set_get hs8
  have n8 := set_n hs8
  have o8 := set_old hs8
  have hr8 : H8.get H.n = some (Tc T0 (.slice none 0 0)) := by rw [o8 H.n (by omega)]; exact hr7
  have hb8 : Box b H8 := box_put hb7 (by omega) o8 n8
  have xh8 : KeepX b H H8 := keepX_put (xh6.trans x7) (by omega) o8 n8
  by_cases h3 : 3 ≤ st
  · repeat' first
      | refine CO.cons rfl ?_
      | refine CO.nil ?_
      | refine CV.seq ?_
      | refine CV.region callees ?_
      | refine CV.cond ?_
      | refine CV.block ?_
      | refine CV.skip ?_
      | refine CV.exit ?_
      | refine CV.ret ?_
      | refine CV.scope ?_
      | refine CV.draw callees rfl ?_
      | refine CH.cons rfl ?_
      | refine CH.nil ?_
      | refine CO.consG rfl ?_
      | refine CH.consG rfl ?_
      | refine CG.cons rfl ?_
      | refine CR.cons ?_
      | refine CR.nil ?_
      | refine CG.nil ?_
      | refine CG.consG rfl ?_
      | refine ⟨(rfl : plain _ = true), ?_⟩
      | refine ⟨(rfl : nilOk _ = some _), ?_⟩
      | refine ⟨_, ints_len (by assumption), ?_⟩
      | refine ⟨_, ints_addr (by assumption) (by omega) (by omega), ?_⟩
      | refine ⟨_, ints_load (by assumption) (by omega) (by omega), ?_⟩
      | refine ⟨(⟨by omega, by omega⟩ : inI64 _), ?_⟩
      | refine ⟨_, fun tm ha => step1_max rfl (ev_tmp ha rfl) (ev_tmp ha rfl), ?_⟩
      | refine ⟨_, fun tm ha => step1_min rfl (ev_tmp ha rfl) (ev_tmp ha rfl), ?_⟩
      | (refine ⟨_, addrT (by decide), ?_⟩)
      | (refine ⟨VI pk, cell_load ag3 hg8 rfl, ?_⟩)
      | (refine ⟨VI st, cell_load ag3 hg8 rfl, ?_⟩)
      | (refine ⟨fun _ => ?_, fun _ => ?_⟩ <;> first | (exfalso; omega) | skip)
      | fail
    refine ⟨_, _, cell_store sz3 hg8 (Nat.le_of_ble_eq_true rfl) rfl, by omega, ?_⟩
    generalize hsa : H8.set bt _ = Ha
    have hga : Ha.get bt = some (Tc ⟨pk, pk, st, []⟩ (.slice none 0 0)) := set_get hsa
    have na := set_n hsa
    have oa := set_old hsa
    have hra : Ha.get H.n = some (Tc T0 (.slice none 0 0)) := by rw [oa H.n (by omega)]; exact hr8
    have hba : Box b Ha := box_put hb8 (by omega) oa na
    have xha : KeepX b H Ha := keepX_put xh8 (by omega) oa na
    repeat' first
      | refine CO.cons rfl ?_
      | refine CO.nil ?_
      | refine CV.seq ?_
      | refine CV.region callees ?_
      | refine CV.cond ?_
      | refine CV.block ?_
      | refine CV.skip ?_
      | refine CV.exit ?_
      | refine CV.ret ?_
      | refine CV.scope ?_
      | refine CV.draw callees rfl ?_
      | refine CH.cons rfl ?_
      | refine CH.nil ?_
      | refine CO.consG rfl ?_
      | refine CH.consG rfl ?_
      | refine CG.cons rfl ?_
      | refine CR.cons ?_
      | refine CR.nil ?_
      | refine CG.nil ?_
      | refine CG.consG rfl ?_
      | refine ⟨(rfl : plain _ = true), ?_⟩
      | refine ⟨(rfl : nilOk _ = some _), ?_⟩
      | refine ⟨_, ints_len (by assumption), ?_⟩
      | refine ⟨_, ints_addr (by assumption) (by omega) (by omega), ?_⟩
      | refine ⟨_, ints_load (by assumption) (by omega) (by omega), ?_⟩
      | refine ⟨(⟨by omega, by omega⟩ : inI64 _), ?_⟩
      | refine ⟨_, fun tm ha => step1_max rfl (ev_tmp ha rfl) (ev_tmp ha rfl), ?_⟩
      | refine ⟨_, fun tm ha => step1_min rfl (ev_tmp ha rfl) (ev_tmp ha rfl), ?_⟩
      | (refine ⟨fun _ => ?_, fun _ => ?_⟩ <;> first | (exfalso; omega) | skip)
      | fail
    refine (any_spec hB (by omega) hba (by omega) (by omega) (by omega)).mono ?_
    rintro r H9 ⟨⟨g, rfl, g0, g1⟩, hb9, x9⟩
    have l9 := x9.1
    have xx9 := (xha).trans x9
    have hg9 : H9.get bt = some (Tc ⟨pk, pk, st, []⟩ (.slice none 0 0)) := by rw [x9.2 bt (by omega) (by omega)]; exact hga
    have hr9 : H9.get H.n = some (Tc T0 (.slice none 0 0)) := by rw [x9.2 H.n (by omega) (by omega)]; exact hra
    repeat' first
      | refine CO.cons rfl ?_
      | refine CO.nil ?_
      | refine CV.seq ?_
      | refine CV.region callees ?_
      | refine CV.cond ?_
      | refine CV.block ?_
      | refine CV.skip ?_
      | refine CV.exit ?_
      | refine CV.ret ?_
      | refine CV.scope ?_
      | refine CV.draw callees rfl ?_
      | refine CH.cons rfl ?_
      | refine CH.nil ?_
      | refine CO.consG rfl ?_
      | refine CH.consG rfl ?_
      | refine CG.cons rfl ?_
      | refine CR.cons ?_
      | refine CR.nil ?_
      | refine CG.nil ?_
      | refine CG.consG rfl ?_
      | refine ⟨(rfl : plain _ = true), ?_⟩
      | refine ⟨(rfl : nilOk _ = some _), ?_⟩
      | refine ⟨_, ints_len (by assumption), ?_⟩
      | refine ⟨_, ints_addr (by assumption) (by omega) (by omega), ?_⟩
      | refine ⟨_, ints_load (by assumption) (by omega) (by omega), ?_⟩
      | refine ⟨(⟨by omega, by omega⟩ : inI64 _), ?_⟩
      | refine ⟨_, fun tm ha => step1_max rfl (ev_tmp ha rfl) (ev_tmp ha rfl), ?_⟩
      | refine ⟨_, fun tm ha => step1_min rfl (ev_tmp ha rfl) (ev_tmp ha rfl), ?_⟩
      | (refine ⟨fun _ => ?_, fun _ => ?_⟩ <;> first | (exfalso; omega) | skip)
      | fail
    refine CV.loopc ?_
    refine WCv.rounds callees false (α := Int × Value × List Value × List (List Int)) (fun (i, q, vals, ls) => [(0, bp b), (6, .pointer (some ⟨H.n, 0, none⟩)), (7, .pointer (some ⟨bt, 0, none⟩)), (8, .int .i64 i)]) (fun (i, q, vals, ls) Hz => (0 ≤ i ∧ (ls.length : Int) + i = g) ∧ OwnG Hz q vals ls H9.n ∧ Box b Hz ∧ KeepX b H Hz ∧ Hz.get bt = some (Tc ⟨pk, pk, st, []⟩ q) ∧ Hz.get H.n = some (Tc T0 (.slice none 0 0)) ∧ H9.n ≤ Hz.n ∧ (∀ i : Nat, i < ls.length → (ls[i]!.length : Int) = pk ∧ goodR pk (pk) ls[i]!)) (fun (i, q, vals, ls) => i.toNat) (g, .slice none 0 0, [], []) (by repeat' first | exact trivial | refine ⟨rfl, ?_⟩ | refine ⟨slot_int (by (try simp only [Int.toNat_natCast]); omega), ?_⟩) ?_ ?_
    · exact ⟨⟨by omega, by simp⟩, OwnG.nil, hb9, xx9, hg9, hr9, Nat.le_refl _, fun i hi => by simp at hi⟩
    rintro ⟨i, q, vals, ls⟩ Hx ⟨⟨hi0, hig⟩, hq, hbx, hkx, hgx, hrx, hlx, hgd⟩ hBx
    have hbxn := hbx.1
    by_cases hi : 0 < i
    · repeat' first
        | refine CO.cons rfl ?_
        | refine CO.nil ?_
        | refine CV.seq ?_
        | refine CV.region callees ?_
        | refine CV.cond ?_
        | refine CV.block ?_
        | refine CV.skip ?_
        | refine CV.exit ?_
        | refine CV.ret ?_
        | refine CV.scope ?_
        | refine CV.draw callees rfl ?_
        | refine CH.cons rfl ?_
        | refine CH.nil ?_
        | refine CO.consG rfl ?_
        | refine CH.consG rfl ?_
        | refine CG.cons rfl ?_
        | refine CR.cons ?_
        | refine CR.nil ?_
        | refine CG.nil ?_
        | refine CG.consG rfl ?_
        | refine ⟨(rfl : plain _ = true), ?_⟩
        | refine ⟨(rfl : nilOk _ = some _), ?_⟩
        | refine ⟨_, ints_len (by assumption), ?_⟩
        | refine ⟨_, ints_addr (by assumption) (by omega) (by omega), ?_⟩
        | refine ⟨_, ints_load (by assumption) (by omega) (by omega), ?_⟩
        | refine ⟨(⟨by omega, by omega⟩ : inI64 _), ?_⟩
        | refine ⟨_, fun tm ha => step1_max rfl (ev_tmp ha rfl) (ev_tmp ha rfl), ?_⟩
        | refine ⟨_, fun tm ha => step1_min rfl (ev_tmp ha rfl) (ev_tmp ha rfl), ?_⟩
        | (refine ⟨fun _ => ?_, fun _ => ?_⟩ <;> first | (exfalso; omega) | skip)
        | fail
      refine CV.loopc ?_
      refine WCv.rounds callees false (α := Value × List Int) (fun (l, xs) => [(0, bp b), (6, .pointer (some ⟨H.n, 0, none⟩)), (7, .pointer (some ⟨bt, 0, none⟩)), (8, .int .i64 i), (9, l), (10, .int .i64 xs.length)]) (fun (l, xs) Hz => (xs.length : Int) ≤ pk ∧ Own 3 Hz l (xs.map VI) Hx.n ∧ Box b Hz ∧ KeepX b Hx Hz ∧ goodR pk (pk) xs) (fun (l, xs) => pk.toNat - xs.length) (.slice none 0 0, []) (by repeat' first | exact trivial | refine ⟨rfl, ?_⟩ | refine ⟨slot_int (by (try simp only [Int.toNat_natCast]); omega), ?_⟩) ?_ ?_
      · exact ⟨by simp; omega, .inl ⟨rfl, rfl⟩, hbx, KeepX.refl _ _, fun j hj => by simp at hj⟩
      rintro ⟨l, xs⟩ Hy ⟨hxl, hl, hby, hky, hgx2⟩ hBy
      have lky := hky.1
      have hgy : Hy.get bt = some (Tc ⟨pk, pk, st, []⟩ q) := by rw [hky.2 bt (by omega) (by omega)]; exact hgx
      have hry : Hy.get H.n = some (Tc T0 (.slice none 0 0)) := by rw [hky.2 H.n (by omega) (by omega)]; exact hrx
      by_cases hx2 : (xs.length : Int) < pk
      · by_cases hps : (xs.length : Int) < pk
        · repeat' first
            | refine CO.cons rfl ?_
            | refine CO.nil ?_
            | refine CV.seq ?_
            | refine CV.region callees ?_
            | refine CV.cond ?_
            | refine CV.block ?_
            | refine CV.skip ?_
            | refine CV.exit ?_
            | refine CV.ret ?_
            | refine CV.scope ?_
            | refine CV.draw callees rfl ?_
            | refine CH.cons rfl ?_
            | refine CH.nil ?_
            | refine CO.consG rfl ?_
            | refine CH.consG rfl ?_
            | refine CG.cons rfl ?_
            | refine CR.cons ?_
            | refine CR.nil ?_
            | refine CG.nil ?_
            | refine CG.consG rfl ?_
            | refine ⟨(rfl : plain _ = true), ?_⟩
            | refine ⟨(rfl : nilOk _ = some _), ?_⟩
            | refine ⟨_, ints_len (by assumption), ?_⟩
            | refine ⟨_, ints_addr (by assumption) (by omega) (by omega), ?_⟩
            | refine ⟨_, ints_load (by assumption) (by omega) (by omega), ?_⟩
            | refine ⟨(⟨by omega, by omega⟩ : inI64 _), ?_⟩
            | refine ⟨_, fun tm ha => step1_max rfl (ev_tmp ha rfl) (ev_tmp ha rfl), ?_⟩
            | refine ⟨_, fun tm ha => step1_min rfl (ev_tmp ha rfl) (ev_tmp ha rfl), ?_⟩
            | (refine ⟨_, addrT (by decide), ?_⟩)
            | (refine ⟨VI pk, cell_load ag3 hgy rfl, ?_⟩)
            | (refine ⟨VI (pk), cell_load ag3 hgy rfl, ?_⟩)
            | (refine ⟨fun _ => ?_, fun _ => ?_⟩ <;> first | (exfalso; omega) | skip)
            | fail
          refine (any_spec hB hBy hby (by omega) (by omega) (by omega)).mono ?_
          rintro r Hc ⟨⟨y, rfl, y0, y1⟩, hbc, xc⟩
          have lc := xc.1
          have hlc := own_box hl xc hby
          have hy : okN y = true := by simp only [okN, Bool.and_eq_true, decide_eq_true_eq]; omega
          repeat' first
            | refine CO.cons rfl ?_
            | refine CO.nil ?_
            | refine CV.seq ?_
            | refine CV.region callees ?_
            | refine CV.cond ?_
            | refine CV.block ?_
            | refine CV.skip ?_
            | refine CV.exit ?_
            | refine CV.ret ?_
            | refine CV.scope ?_
            | refine CV.draw callees rfl ?_
            | refine CH.cons rfl ?_
            | refine CH.nil ?_
            | refine CO.consG rfl ?_
            | refine CH.consG rfl ?_
            | refine CG.cons rfl ?_
            | refine CR.cons ?_
            | refine CR.nil ?_
            | refine CG.nil ?_
            | refine CG.consG rfl ?_
            | refine ⟨(rfl : plain _ = true), ?_⟩
            | refine ⟨(rfl : nilOk _ = some _), ?_⟩
            | refine ⟨_, ints_len (by assumption), ?_⟩
            | refine ⟨_, ints_addr (by assumption) (by omega) (by omega), ?_⟩
            | refine ⟨_, ints_load (by assumption) (by omega) (by omega), ?_⟩
            | refine ⟨(⟨by omega, by omega⟩ : inI64 _), ?_⟩
            | refine ⟨_, fun tm ha => step1_max rfl (ev_tmp ha rfl) (ev_tmp ha rfl), ?_⟩
            | refine ⟨_, fun tm ha => step1_min rfl (ev_tmp ha rfl) (ev_tmp ha rfl), ?_⟩
            | refine ⟨_, _, build_one un22 one3 rfl, ?_⟩
            | (refine ⟨fun _ => ?_, fun _ => ?_⟩ <;> first | (exfalso; omega) | skip)
            | fail
          refine push_ask (y := y) hlc (by omega) (by omega) (by omega) ?_
          intro lN HN hlN kbN hfN
          have lz : (xs ++ [y]).length = xs.length + 1 := by simp
          repeat' first
            | refine CO.cons rfl ?_
            | refine CO.nil ?_
            | refine CV.seq ?_
            | refine CV.region callees ?_
            | refine CV.cond ?_
            | refine CV.block ?_
            | refine CV.skip ?_
            | refine CV.exit ?_
            | refine CV.ret ?_
            | refine CV.scope ?_
            | refine CV.draw callees rfl ?_
            | refine CH.cons rfl ?_
            | refine CH.nil ?_
            | refine CO.consG rfl ?_
            | refine CH.consG rfl ?_
            | refine CG.cons rfl ?_
            | refine CR.cons ?_
            | refine CR.nil ?_
            | refine CG.nil ?_
            | refine CG.consG rfl ?_
            | refine ⟨(rfl : plain _ = true), ?_⟩
            | refine ⟨(rfl : nilOk _ = some _), ?_⟩
            | refine ⟨_, ints_len (by assumption), ?_⟩
            | refine ⟨_, ints_addr (by assumption) (by omega) (by omega), ?_⟩
            | refine ⟨_, ints_load (by assumption) (by omega) (by omega), ?_⟩
            | refine ⟨(⟨by omega, by omega⟩ : inI64 _), ?_⟩
            | refine ⟨_, fun tm ha => step1_max rfl (ev_tmp ha rfl) (ev_tmp ha rfl), ?_⟩
            | refine ⟨_, fun tm ha => step1_min rfl (ev_tmp ha rfl) (ev_tmp ha rfl), ?_⟩
            | (refine ⟨fun _ => ?_, fun _ => ?_⟩ <;> first | (exfalso; omega) | skip)
            | fail
          refine ⟨(lN, xs ++ [y]), (by repeat' first | exact trivial | refine ⟨rfl, ?_⟩ | refine ⟨slot_int (by (try simp only [Int.toNat_natCast]); omega), ?_⟩), (by (try dsimp only); omega), ?_⟩
          exact ⟨by omega, hlN, hbc.keepBut kbN (own_apartBox (H0 := H) hlc (by omega)), kbN.keepX (hky.trans xc) (fun c hc => (hlc.lt hc).1), hgx2.push hy (fun h => by omega)⟩
        · repeat' first
            | refine CO.cons rfl ?_
            | refine CO.nil ?_
            | refine CV.seq ?_
            | refine CV.region callees ?_
            | refine CV.cond ?_
            | refine CV.block ?_
            | refine CV.skip ?_
            | refine CV.exit ?_
            | refine CV.ret ?_
            | refine CV.scope ?_
            | refine CV.draw callees rfl ?_
            | refine CH.cons rfl ?_
            | refine CH.nil ?_
            | refine CO.consG rfl ?_
            | refine CH.consG rfl ?_
            | refine CG.cons rfl ?_
            | refine CR.cons ?_
            | refine CR.nil ?_
            | refine CG.nil ?_
            | refine CG.consG rfl ?_
            | refine ⟨(rfl : plain _ = true), ?_⟩
            | refine ⟨(rfl : nilOk _ = some _), ?_⟩
            | refine ⟨_, ints_len (by assumption), ?_⟩
            | refine ⟨_, ints_addr (by assumption) (by omega) (by omega), ?_⟩
            | refine ⟨_, ints_load (by assumption) (by omega) (by omega), ?_⟩
            | refine ⟨(⟨by omega, by omega⟩ : inI64 _), ?_⟩
            | refine ⟨_, fun tm ha => step1_max rfl (ev_tmp ha rfl) (ev_tmp ha rfl), ?_⟩
            | refine ⟨_, fun tm ha => step1_min rfl (ev_tmp ha rfl) (ev_tmp ha rfl), ?_⟩
            | (refine ⟨_, addrT (by decide), ?_⟩)
            | (refine ⟨VI pk, cell_load ag3 hgy rfl, ?_⟩)
            | (refine ⟨VI (pk), cell_load ag3 hgy rfl, ?_⟩)
            | refine ⟨_, _, build_one un22 one3 rfl, ?_⟩
            | (refine ⟨fun _ => ?_, fun _ => ?_⟩ <;> first | (exfalso; omega) | skip)
            | fail
          all_goals
            refine push_ask (y := -1) hl (by omega) (by omega) (by omega) ?_
            intro lN HN hlN kbN hfN
            have lz : (xs ++ [(-1 : Int)]).length = xs.length + 1 := by simp
            repeat' first
              | refine CO.cons rfl ?_
              | refine CO.nil ?_
              | refine CV.seq ?_
              | refine CV.region callees ?_
              | refine CV.cond ?_
              | refine CV.block ?_
              | refine CV.skip ?_
              | refine CV.exit ?_
              | refine CV.ret ?_
              | refine CV.scope ?_
              | refine CV.draw callees rfl ?_
              | refine CH.cons rfl ?_
              | refine CH.nil ?_
              | refine CO.consG rfl ?_
              | refine CH.consG rfl ?_
              | refine CG.cons rfl ?_
              | refine CR.cons ?_
              | refine CR.nil ?_
              | refine CG.nil ?_
              | refine CG.consG rfl ?_
              | refine ⟨(rfl : plain _ = true), ?_⟩
              | refine ⟨(rfl : nilOk _ = some _), ?_⟩
              | refine ⟨_, ints_len (by assumption), ?_⟩
              | refine ⟨_, ints_addr (by assumption) (by omega) (by omega), ?_⟩
              | refine ⟨_, ints_load (by assumption) (by omega) (by omega), ?_⟩
              | refine ⟨(⟨by omega, by omega⟩ : inI64 _), ?_⟩
              | refine ⟨_, fun tm ha => step1_max rfl (ev_tmp ha rfl) (ev_tmp ha rfl), ?_⟩
              | refine ⟨_, fun tm ha => step1_min rfl (ev_tmp ha rfl) (ev_tmp ha rfl), ?_⟩
              | (refine ⟨fun _ => ?_, fun _ => ?_⟩ <;> first | (exfalso; omega) | skip)
              | fail
            refine ⟨(lN, xs ++ [-1]), (by repeat' first | exact trivial | refine ⟨rfl, ?_⟩ | refine ⟨slot_int (by (try simp only [Int.toNat_natCast]); omega), ?_⟩), (by (try dsimp only); omega), ?_⟩
            exact ⟨by omega, hlN, hby.keepBut kbN (own_apartBox (H0 := H) hl (by omega)), kbN.keepX hky (fun c hc => (hl.lt hc).1), hgx2.push (by decide) (fun h => rfl)⟩
      · have hqy := hq.box hky hbx
        repeat' first
          | refine CO.cons rfl ?_
          | refine CO.nil ?_
          | refine CV.seq ?_
          | refine CV.region callees ?_
          | refine CV.cond ?_
          | refine CV.block ?_
          | refine CV.skip ?_
          | refine CV.exit ?_
          | refine CV.ret ?_
          | refine CV.scope ?_
          | refine CV.draw callees rfl ?_
          | refine CH.cons rfl ?_
          | refine CH.nil ?_
          | refine CO.consG rfl ?_
          | refine CH.consG rfl ?_
          | refine CG.cons rfl ?_
          | refine CR.cons ?_
          | refine CR.nil ?_
          | refine CG.nil ?_
          | refine CG.consG rfl ?_
          | refine ⟨(rfl : plain _ = true), ?_⟩
          | refine ⟨(rfl : nilOk _ = some _), ?_⟩
          | refine ⟨_, ints_len (by assumption), ?_⟩
          | refine ⟨_, ints_addr (by assumption) (by omega) (by omega), ?_⟩
          | refine ⟨_, ints_load (by assumption) (by omega) (by omega), ?_⟩
          | refine ⟨(⟨by omega, by omega⟩ : inI64 _), ?_⟩
          | refine ⟨_, fun tm ha => step1_max rfl (ev_tmp ha rfl) (ev_tmp ha rfl), ?_⟩
          | refine ⟨_, fun tm ha => step1_min rfl (ev_tmp ha rfl) (ev_tmp ha rfl), ?_⟩
          | (refine ⟨_, addrT (by decide), ?_⟩)
          | (refine ⟨VI pk, cell_load ag3 hgy rfl, ?_⟩)
          | (refine ⟨VI (pk), cell_load ag3 hgy rfl, ?_⟩)
          | (refine ⟨_, cell_load ag32 hgy rfl, ?_⟩)
          | refine ⟨_, _, build_one un32 one22 hl.row.oneC.1, ?_⟩
          | (refine ⟨fun _ => ?_, fun _ => ?_⟩ <;> first | (exfalso; omega) | skip)
          | fail
        refine gpush_ask (xs := xs) hqy (by omega) (by omega) (hl.low (by omega)) (fun d hd hd2 => by have h1 := (hl.lt hd).1; have h2 := (hq.own.lt hd2).2; omega) (by omega) ?_
        intro q2 Hd hqd kbd hfd
        have ld := kbd.le
        have hgd2 : Hd.get bt = some (Tc ⟨pk, pk, st, []⟩ q) := by rw [kbd.get bt (by omega) (fun h => by have := (hq.own.lt h).1; omega)]; exact hgy
        repeat' first
          | refine CO.cons rfl ?_
          | refine CO.nil ?_
          | refine CV.seq ?_
          | refine CV.region callees ?_
          | refine CV.cond ?_
          | refine CV.block ?_
          | refine CV.skip ?_
          | refine CV.exit ?_
          | refine CV.ret ?_
          | refine CV.scope ?_
          | refine CV.draw callees rfl ?_
          | refine CH.cons rfl ?_
          | refine CH.nil ?_
          | refine CO.consG rfl ?_
          | refine CH.consG rfl ?_
          | refine CG.cons rfl ?_
          | refine CR.cons ?_
          | refine CR.nil ?_
          | refine CG.nil ?_
          | refine CG.consG rfl ?_
          | refine ⟨(rfl : plain _ = true), ?_⟩
          | refine ⟨(rfl : nilOk _ = some _), ?_⟩
          | refine ⟨_, ints_len (by assumption), ?_⟩
          | refine ⟨_, ints_addr (by assumption) (by omega) (by omega), ?_⟩
          | refine ⟨_, ints_load (by assumption) (by omega) (by omega), ?_⟩
          | refine ⟨(⟨by omega, by omega⟩ : inI64 _), ?_⟩
          | refine ⟨_, fun tm ha => step1_max rfl (ev_tmp ha rfl) (ev_tmp ha rfl), ?_⟩
          | refine ⟨_, fun tm ha => step1_min rfl (ev_tmp ha rfl) (ev_tmp ha rfl), ?_⟩
          | (refine ⟨_, addrT (by decide), ?_⟩)
          | (refine ⟨fun _ => ?_, fun _ => ?_⟩ <;> first | (exfalso; omega) | skip)
          | fail
        refine ⟨_, _, cell_store sz32 hgd2 (Nat.le_of_ble_eq_true rfl) hqd.own.row.oneC.1, by omega, ?_⟩
        generalize hse : Hd.set bt _ = He
        have hge : He.get bt = some (Tc ⟨pk, pk, st, []⟩ q2) := set_get hse
        have ne := set_n hse
        have oe := set_old hse
        have xe : KeepX bt Hd He := by rw [← hse]; exact KeepX.set _ _
        have lz : (ls ++ [xs]).length = ls.length + 1 := by simp
        repeat' first
          | refine CO.cons rfl ?_
          | refine CO.nil ?_
          | refine CV.seq ?_
          | refine CV.region callees ?_
          | refine CV.cond ?_
          | refine CV.block ?_
          | refine CV.skip ?_
          | refine CV.exit ?_
          | refine CV.ret ?_
          | refine CV.scope ?_
          | refine CV.draw callees rfl ?_
          | refine CH.cons rfl ?_
          | refine CH.nil ?_
          | refine CO.consG rfl ?_
          | refine CH.consG rfl ?_
          | refine CG.cons rfl ?_
          | refine CR.cons ?_
          | refine CR.nil ?_
          | refine CG.nil ?_
          | refine CG.consG rfl ?_
          | refine ⟨(rfl : plain _ = true), ?_⟩
          | refine ⟨(rfl : nilOk _ = some _), ?_⟩
          | refine ⟨_, ints_len (by assumption), ?_⟩
          | refine ⟨_, ints_addr (by assumption) (by omega) (by omega), ?_⟩
          | refine ⟨_, ints_load (by assumption) (by omega) (by omega), ?_⟩
          | refine ⟨(⟨by omega, by omega⟩ : inI64 _), ?_⟩
          | refine ⟨_, fun tm ha => step1_max rfl (ev_tmp ha rfl) (ev_tmp ha rfl), ?_⟩
          | refine ⟨_, fun tm ha => step1_min rfl (ev_tmp ha rfl) (ev_tmp ha rfl), ?_⟩
          | (refine ⟨fun _ => ?_, fun _ => ?_⟩ <;> first | (exfalso; omega) | skip)
          | fail
        refine ⟨(i - 1, q2, vals ++ [l], ls ++ [xs]), (by repeat' first | exact trivial | refine ⟨rfl, ?_⟩ | refine ⟨slot_int (by (try simp only [Int.toNat_natCast]); omega), ?_⟩), (by (try dsimp only); omega), ?_⟩
        have hbd : Box b Hd := hby.keepBut kbd (own_apartBox (H0 := H) hqy.own (by omega))
        refine ⟨by omega, hqd.keepXc xe hgd2, box_put hbd (by omega) oe ne, keepX_put (kbd.keepX (hkx.trans hky) (fun c hc => by have := (hq.own.lt hc).1; omega)) (by omega) oe ne, hge, ?_, by omega, rows_push hgd ⟨by omega, hgx2⟩⟩
        rw [oe H.n (by omega), kbd.get H.n (by omega) (fun h => by have := (hq.own.lt h).1; omega)]; exact hry
    · have hi00 : i = 0 := by omega
      subst hi00
      have hoq := hq.own.row.oneC.1
      repeat' first
        | refine CO.cons rfl ?_
        | refine CO.nil ?_
        | refine CV.seq ?_
        | refine CV.region callees ?_
        | refine CV.cond ?_
        | refine CV.block ?_
        | refine CV.skip ?_
        | refine CV.exit ?_
        | refine CV.ret ?_
        | refine CV.scope ?_
        | refine CV.draw callees rfl ?_
        | refine CH.cons rfl ?_
        | refine CH.nil ?_
        | refine CO.consG rfl ?_
        | refine CH.consG rfl ?_
        | refine CG.cons rfl ?_
        | refine CR.cons ?_
        | refine CR.nil ?_
        | refine CG.nil ?_
        | refine CG.consG rfl ?_
        | refine ⟨(rfl : plain _ = true), ?_⟩
        | refine ⟨(rfl : nilOk _ = some _), ?_⟩
        | refine ⟨_, ints_len (by assumption), ?_⟩
        | refine ⟨_, ints_addr (by assumption) (by omega) (by omega), ?_⟩
        | refine ⟨_, ints_load (by assumption) (by omega) (by omega), ?_⟩
        | refine ⟨(⟨by omega, by omega⟩ : inI64 _), ?_⟩
        | refine ⟨_, fun tm ha => step1_max rfl (ev_tmp ha rfl) (ev_tmp ha rfl), ?_⟩
        | refine ⟨_, fun tm ha => step1_min rfl (ev_tmp ha rfl) (ev_tmp ha rfl), ?_⟩
        | (refine ⟨_, loadT hgx, ?_⟩)
        | (refine ⟨fun _ => ?_, fun _ => ?_⟩ <;> first | (exfalso; omega) | skip)
        | fail
      refine ⟨_, _, storeT hoq hrx, by omega, ?_⟩
      generalize hse : Hx.set H.n _ = He
      have hge := set_get hse
      have ne := set_n hse
      have oe := set_old hse
      have xe : KeepX H.n Hx He := by rw [← hse]; exact KeepX.set _ _
      repeat' first
        | refine CO.cons rfl ?_
        | refine CO.nil ?_
        | refine CV.seq ?_
        | refine CV.region callees ?_
        | refine CV.cond ?_
        | refine CV.block ?_
        | refine CV.skip ?_
        | refine CV.exit ?_
        | refine CV.ret ?_
        | refine CV.scope ?_
        | refine CV.draw callees rfl ?_
        | refine CH.cons rfl ?_
        | refine CH.nil ?_
        | refine CO.consG rfl ?_
        | refine CH.consG rfl ?_
        | refine CG.cons rfl ?_
        | refine CR.cons ?_
        | refine CR.nil ?_
        | refine CG.nil ?_
        | refine CG.consG rfl ?_
        | refine ⟨(rfl : plain _ = true), ?_⟩
        | refine ⟨(rfl : nilOk _ = some _), ?_⟩
        | refine ⟨_, ints_len (by assumption), ?_⟩
        | refine ⟨_, ints_addr (by assumption) (by omega) (by omega), ?_⟩
        | refine ⟨_, ints_load (by assumption) (by omega) (by omega), ?_⟩
        | refine ⟨(⟨by omega, by omega⟩ : inI64 _), ?_⟩
        | refine ⟨_, fun tm ha => step1_max rfl (ev_tmp ha rfl) (ev_tmp ha rfl), ?_⟩
        | refine ⟨_, fun tm ha => step1_min rfl (ev_tmp ha rfl) (ev_tmp ha rfl), ?_⟩
        | (refine ⟨fun _ => ?_, fun _ => ?_⟩ <;> first | (exfalso; omega) | skip)
        | fail
      refine ⟨_, loadT hge, by simp only [List.all_cons, List.all_nil, notTuple]; rfl, ⟨⟨pk, pk, st, ls⟩, q, vals, rfl, ⟨by show 1 ≤ pk; omega, by show pk ≤ 9; omega, by show 0 ≤ pk; omega, by show pk ≤ pk; omega, by show 1 ≤ st; omega, by show st ≤ 4; omega, ?_, ?_, fun i hi => ⟨(hgd i hi).1, fun j hj => ((hgd i hi).2 j hj).1, fun j hj hp => ((hgd i hi).2 j hj).2 hp⟩, fun h3 => by first | rfl | (exfalso; have : 3 ≤ st := h3; omega)⟩, (hq.keepXc xe hrx).low (by omega)⟩, box_put hbx (by omega) oe ne, keepX_put hkx (by omega) oe ne⟩
      · show 0 < ls.length; omega
      · show ls.length ≤ 12; omega
  · repeat' first
      | refine CO.cons rfl ?_
      | refine CO.nil ?_
      | refine CV.seq ?_
      | refine CV.region callees ?_
      | refine CV.cond ?_
      | refine CV.block ?_
      | refine CV.skip ?_
      | refine CV.exit ?_
      | refine CV.ret ?_
      | refine CV.scope ?_
      | refine CV.draw callees rfl ?_
      | refine CH.cons rfl ?_
      | refine CH.nil ?_
      | refine CO.consG rfl ?_
      | refine CH.consG rfl ?_
      | refine CG.cons rfl ?_
      | refine CR.cons ?_
      | refine CR.nil ?_
      | refine CG.nil ?_
      | refine CG.consG rfl ?_
      | refine ⟨(rfl : plain _ = true), ?_⟩
      | refine ⟨(rfl : nilOk _ = some _), ?_⟩
      | refine ⟨_, ints_len (by assumption), ?_⟩
      | refine ⟨_, ints_addr (by assumption) (by omega) (by omega), ?_⟩
      | refine ⟨_, ints_load (by assumption) (by omega) (by omega), ?_⟩
      | refine ⟨(⟨by omega, by omega⟩ : inI64 _), ?_⟩
      | refine ⟨_, fun tm ha => step1_max rfl (ev_tmp ha rfl) (ev_tmp ha rfl), ?_⟩
      | refine ⟨_, fun tm ha => step1_min rfl (ev_tmp ha rfl) (ev_tmp ha rfl), ?_⟩
      | (refine ⟨_, addrT (by decide), ?_⟩)
      | (refine ⟨VI pk, cell_load ag3 hg8 rfl, ?_⟩)
      | (refine ⟨VI st, cell_load ag3 hg8 rfl, ?_⟩)
      | (refine ⟨fun _ => ?_, fun _ => ?_⟩ <;> first | (exfalso; omega) | skip)
      | fail
    refine (any_spec hB (by omega) hb8 (by omega) (by omega) (by omega)).mono ?_
    rintro r H9 ⟨⟨g, rfl, g0, g1⟩, hb9, x9⟩
    have l9 := x9.1
    have xx9 := (xh8).trans x9
    have hg9 : H9.get bt = some (Tc ⟨pk, ps, st, []⟩ (.slice none 0 0)) := by rw [x9.2 bt (by omega) (by omega)]; exact hg8
    have hr9 : H9.get H.n = some (Tc T0 (.slice none 0 0)) := by rw [x9.2 H.n (by omega) (by omega)]; exact hr8
    repeat' first
      | refine CO.cons rfl ?_
      | refine CO.nil ?_
      | refine CV.seq ?_
      | refine CV.region callees ?_
      | refine CV.cond ?_
      | refine CV.block ?_
      | refine CV.skip ?_
      | refine CV.exit ?_
      | refine CV.ret ?_
      | refine CV.scope ?_
      | refine CV.draw callees rfl ?_
      | refine CH.cons rfl ?_
      | refine CH.nil ?_
      | refine CO.consG rfl ?_
      | refine CH.consG rfl ?_
      | refine CG.cons rfl ?_
      | refine CR.cons ?_
      | refine CR.nil ?_
      | refine CG.nil ?_
      | refine CG.consG rfl ?_
      | refine ⟨(rfl : plain _ = true), ?_⟩
      | refine ⟨(rfl : nilOk _ = some _), ?_⟩
      | refine ⟨_, ints_len (by assumption), ?_⟩
      | refine ⟨_, ints_addr (by assumption) (by omega) (by omega), ?_⟩
      | refine ⟨_, ints_load (by assumption) (by omega) (by omega), ?_⟩
      | refine ⟨(⟨by omega, by omega⟩ : inI64 _), ?_⟩
      | refine ⟨_, fun tm ha => step1_max rfl (ev_tmp ha rfl) (ev_tmp ha rfl), ?_⟩
      | refine ⟨_, fun tm ha => step1_min rfl (ev_tmp ha rfl) (ev_tmp ha rfl), ?_⟩
      | (refine ⟨fun _ => ?_, fun _ => ?_⟩ <;> first | (exfalso; omega) | skip)
      | fail
    refine CV.loopc ?_
    refine WCv.rounds callees false (α := Int × Value × List Value × List (List Int)) (fun (i, q, vals, ls) => [(0, bp b), (6, .pointer (some ⟨H.n, 0, none⟩)), (7, .pointer (some ⟨bt, 0, none⟩)), (8, .int .i64 i)]) (fun (i, q, vals, ls) Hz => (0 ≤ i ∧ (ls.length : Int) + i = g) ∧ OwnG Hz q vals ls H9.n ∧ Box b Hz ∧ KeepX b H Hz ∧ Hz.get bt = some (Tc ⟨pk, ps, st, []⟩ q) ∧ Hz.get H.n = some (Tc T0 (.slice none 0 0)) ∧ H9.n ≤ Hz.n ∧ (∀ i : Nat, i < ls.length → (ls[i]!.length : Int) = pk ∧ goodR pk (ps) ls[i]!)) (fun (i, q, vals, ls) => i.toNat) (g, .slice none 0 0, [], []) (by repeat' first | exact trivial | refine ⟨rfl, ?_⟩ | refine ⟨slot_int (by (try simp only [Int.toNat_natCast]); omega), ?_⟩) ?_ ?_
    · exact ⟨⟨by omega, by simp⟩, OwnG.nil, hb9, xx9, hg9, hr9, Nat.le_refl _, fun i hi => by simp at hi⟩
    rintro ⟨i, q, vals, ls⟩ Hx ⟨⟨hi0, hig⟩, hq, hbx, hkx, hgx, hrx, hlx, hgd⟩ hBx
    have hbxn := hbx.1
    by_cases hi : 0 < i
    · repeat' first
        | refine CO.cons rfl ?_
        | refine CO.nil ?_
        | refine CV.seq ?_
        | refine CV.region callees ?_
        | refine CV.cond ?_
        | refine CV.block ?_
        | refine CV.skip ?_
        | refine CV.exit ?_
        | refine CV.ret ?_
        | refine CV.scope ?_
        | refine CV.draw callees rfl ?_
        | refine CH.cons rfl ?_
        | refine CH.nil ?_
        | refine CO.consG rfl ?_
        | refine CH.consG rfl ?_
        | refine CG.cons rfl ?_
        | refine CR.cons ?_
        | refine CR.nil ?_
        | refine CG.nil ?_
        | refine CG.consG rfl ?_
        | refine ⟨(rfl : plain _ = true), ?_⟩
        | refine ⟨(rfl : nilOk _ = some _), ?_⟩
        | refine ⟨_, ints_len (by assumption), ?_⟩
        | refine ⟨_, ints_addr (by assumption) (by omega) (by omega), ?_⟩
        | refine ⟨_, ints_load (by assumption) (by omega) (by omega), ?_⟩
        | refine ⟨(⟨by omega, by omega⟩ : inI64 _), ?_⟩
        | refine ⟨_, fun tm ha => step1_max rfl (ev_tmp ha rfl) (ev_tmp ha rfl), ?_⟩
        | refine ⟨_, fun tm ha => step1_min rfl (ev_tmp ha rfl) (ev_tmp ha rfl), ?_⟩
        | (refine ⟨fun _ => ?_, fun _ => ?_⟩ <;> first | (exfalso; omega) | skip)
        | fail
      refine CV.loopc ?_
      refine WCv.rounds callees false (α := Value × List Int) (fun (l, xs) => [(0, bp b), (6, .pointer (some ⟨H.n, 0, none⟩)), (7, .pointer (some ⟨bt, 0, none⟩)), (8, .int .i64 i), (9, l), (10, .int .i64 xs.length)]) (fun (l, xs) Hz => (xs.length : Int) ≤ pk ∧ Own 3 Hz l (xs.map VI) Hx.n ∧ Box b Hz ∧ KeepX b Hx Hz ∧ goodR pk (ps) xs) (fun (l, xs) => pk.toNat - xs.length) (.slice none 0 0, []) (by repeat' first | exact trivial | refine ⟨rfl, ?_⟩ | refine ⟨slot_int (by (try simp only [Int.toNat_natCast]); omega), ?_⟩) ?_ ?_
      · exact ⟨by simp; omega, .inl ⟨rfl, rfl⟩, hbx, KeepX.refl _ _, fun j hj => by simp at hj⟩
      rintro ⟨l, xs⟩ Hy ⟨hxl, hl, hby, hky, hgx2⟩ hBy
      have lky := hky.1
      have hgy : Hy.get bt = some (Tc ⟨pk, ps, st, []⟩ q) := by rw [hky.2 bt (by omega) (by omega)]; exact hgx
      have hry : Hy.get H.n = some (Tc T0 (.slice none 0 0)) := by rw [hky.2 H.n (by omega) (by omega)]; exact hrx
      by_cases hx2 : (xs.length : Int) < pk
      · by_cases hps : (xs.length : Int) < ps
        · repeat' first
            | refine CO.cons rfl ?_
            | refine CO.nil ?_
            | refine CV.seq ?_
            | refine CV.region callees ?_
            | refine CV.cond ?_
            | refine CV.block ?_
            | refine CV.skip ?_
            | refine CV.exit ?_
            | refine CV.ret ?_
            | refine CV.scope ?_
            | refine CV.draw callees rfl ?_
            | refine CH.cons rfl ?_
            | refine CH.nil ?_
            | refine CO.consG rfl ?_
            | refine CH.consG rfl ?_
            | refine CG.cons rfl ?_
            | refine CR.cons ?_
            | refine CR.nil ?_
            | refine CG.nil ?_
            | refine CG.consG rfl ?_
            | refine ⟨(rfl : plain _ = true), ?_⟩
            | refine ⟨(rfl : nilOk _ = some _), ?_⟩
            | refine ⟨_, ints_len (by assumption), ?_⟩
            | refine ⟨_, ints_addr (by assumption) (by omega) (by omega), ?_⟩
            | refine ⟨_, ints_load (by assumption) (by omega) (by omega), ?_⟩
            | refine ⟨(⟨by omega, by omega⟩ : inI64 _), ?_⟩
            | refine ⟨_, fun tm ha => step1_max rfl (ev_tmp ha rfl) (ev_tmp ha rfl), ?_⟩
            | refine ⟨_, fun tm ha => step1_min rfl (ev_tmp ha rfl) (ev_tmp ha rfl), ?_⟩
            | (refine ⟨_, addrT (by decide), ?_⟩)
            | (refine ⟨VI pk, cell_load ag3 hgy rfl, ?_⟩)
            | (refine ⟨VI (ps), cell_load ag3 hgy rfl, ?_⟩)
            | (refine ⟨fun _ => ?_, fun _ => ?_⟩ <;> first | (exfalso; omega) | skip)
            | fail
          refine (any_spec hB hBy hby (by omega) (by omega) (by omega)).mono ?_
          rintro r Hc ⟨⟨y, rfl, y0, y1⟩, hbc, xc⟩
          have lc := xc.1
          have hlc := own_box hl xc hby
          have hy : okN y = true := by simp only [okN, Bool.and_eq_true, decide_eq_true_eq]; omega
          repeat' first
            | refine CO.cons rfl ?_
            | refine CO.nil ?_
            | refine CV.seq ?_
            | refine CV.region callees ?_
            | refine CV.cond ?_
            | refine CV.block ?_
            | refine CV.skip ?_
            | refine CV.exit ?_
            | refine CV.ret ?_
            | refine CV.scope ?_
            | refine CV.draw callees rfl ?_
            | refine CH.cons rfl ?_
            | refine CH.nil ?_
            | refine CO.consG rfl ?_
            | refine CH.consG rfl ?_
            | refine CG.cons rfl ?_
            | refine CR.cons ?_
            | refine CR.nil ?_
            | refine CG.nil ?_
            | refine CG.consG rfl ?_
            | refine ⟨(rfl : plain _ = true), ?_⟩
            | refine ⟨(rfl : nilOk _ = some _), ?_⟩
            | refine ⟨_, ints_len (by assumption), ?_⟩
            | refine ⟨_, ints_addr (by assumption) (by omega) (by omega), ?_⟩
            | refine ⟨_, ints_load (by assumption) (by omega) (by omega), ?_⟩
            | refine ⟨(⟨by omega, by omega⟩ : inI64 _), ?_⟩
            | refine ⟨_, fun tm ha => step1_max rfl (ev_tmp ha rfl) (ev_tmp ha rfl), ?_⟩
            | refine ⟨_, fun tm ha => step1_min rfl (ev_tmp ha rfl) (ev_tmp ha rfl), ?_⟩
            | refine ⟨_, _, build_one un22 one3 rfl, ?_⟩
            | (refine ⟨fun _ => ?_, fun _ => ?_⟩ <;> first | (exfalso; omega) | skip)
            | fail
          refine push_ask (y := y) hlc (by omega) (by omega) (by omega) ?_
          intro lN HN hlN kbN hfN
          have lz : (xs ++ [y]).length = xs.length + 1 := by simp
          repeat' first
            | refine CO.cons rfl ?_
            | refine CO.nil ?_
            | refine CV.seq ?_
            | refine CV.region callees ?_
            | refine CV.cond ?_
            | refine CV.block ?_
            | refine CV.skip ?_
            | refine CV.exit ?_
            | refine CV.ret ?_
            | refine CV.scope ?_
            | refine CV.draw callees rfl ?_
            | refine CH.cons rfl ?_
            | refine CH.nil ?_
            | refine CO.consG rfl ?_
            | refine CH.consG rfl ?_
            | refine CG.cons rfl ?_
            | refine CR.cons ?_
            | refine CR.nil ?_
            | refine CG.nil ?_
            | refine CG.consG rfl ?_
            | refine ⟨(rfl : plain _ = true), ?_⟩
            | refine ⟨(rfl : nilOk _ = some _), ?_⟩
            | refine ⟨_, ints_len (by assumption), ?_⟩
            | refine ⟨_, ints_addr (by assumption) (by omega) (by omega), ?_⟩
            | refine ⟨_, ints_load (by assumption) (by omega) (by omega), ?_⟩
            | refine ⟨(⟨by omega, by omega⟩ : inI64 _), ?_⟩
            | refine ⟨_, fun tm ha => step1_max rfl (ev_tmp ha rfl) (ev_tmp ha rfl), ?_⟩
            | refine ⟨_, fun tm ha => step1_min rfl (ev_tmp ha rfl) (ev_tmp ha rfl), ?_⟩
            | (refine ⟨fun _ => ?_, fun _ => ?_⟩ <;> first | (exfalso; omega) | skip)
            | fail
          refine ⟨(lN, xs ++ [y]), (by repeat' first | exact trivial | refine ⟨rfl, ?_⟩ | refine ⟨slot_int (by (try simp only [Int.toNat_natCast]); omega), ?_⟩), (by (try dsimp only); omega), ?_⟩
          exact ⟨by omega, hlN, hbc.keepBut kbN (own_apartBox (H0 := H) hlc (by omega)), kbN.keepX (hky.trans xc) (fun c hc => (hlc.lt hc).1), hgx2.push hy (fun h => by omega)⟩
        · repeat' first
            | refine CO.cons rfl ?_
            | refine CO.nil ?_
            | refine CV.seq ?_
            | refine CV.region callees ?_
            | refine CV.cond ?_
            | refine CV.block ?_
            | refine CV.skip ?_
            | refine CV.exit ?_
            | refine CV.ret ?_
            | refine CV.scope ?_
            | refine CV.draw callees rfl ?_
            | refine CH.cons rfl ?_
            | refine CH.nil ?_
            | refine CO.consG rfl ?_
            | refine CH.consG rfl ?_
            | refine CG.cons rfl ?_
            | refine CR.cons ?_
            | refine CR.nil ?_
            | refine CG.nil ?_
            | refine CG.consG rfl ?_
            | refine ⟨(rfl : plain _ = true), ?_⟩
            | refine ⟨(rfl : nilOk _ = some _), ?_⟩
            | refine ⟨_, ints_len (by assumption), ?_⟩
            | refine ⟨_, ints_addr (by assumption) (by omega) (by omega), ?_⟩
            | refine ⟨_, ints_load (by assumption) (by omega) (by omega), ?_⟩
            | refine ⟨(⟨by omega, by omega⟩ : inI64 _), ?_⟩
            | refine ⟨_, fun tm ha => step1_max rfl (ev_tmp ha rfl) (ev_tmp ha rfl), ?_⟩
            | refine ⟨_, fun tm ha => step1_min rfl (ev_tmp ha rfl) (ev_tmp ha rfl), ?_⟩
            | (refine ⟨_, addrT (by decide), ?_⟩)
            | (refine ⟨VI pk, cell_load ag3 hgy rfl, ?_⟩)
            | (refine ⟨VI (ps), cell_load ag3 hgy rfl, ?_⟩)
            | refine ⟨_, _, build_one un22 one3 rfl, ?_⟩
            | (refine ⟨fun _ => ?_, fun _ => ?_⟩ <;> first | (exfalso; omega) | skip)
            | fail
          all_goals
            refine push_ask (y := -1) hl (by omega) (by omega) (by omega) ?_
            intro lN HN hlN kbN hfN
            have lz : (xs ++ [(-1 : Int)]).length = xs.length + 1 := by simp
            repeat' first
              | refine CO.cons rfl ?_
              | refine CO.nil ?_
              | refine CV.seq ?_
              | refine CV.region callees ?_
              | refine CV.cond ?_
              | refine CV.block ?_
              | refine CV.skip ?_
              | refine CV.exit ?_
              | refine CV.ret ?_
              | refine CV.scope ?_
              | refine CV.draw callees rfl ?_
              | refine CH.cons rfl ?_
              | refine CH.nil ?_
              | refine CO.consG rfl ?_
              | refine CH.consG rfl ?_
              | refine CG.cons rfl ?_
              | refine CR.cons ?_
              | refine CR.nil ?_
              | refine CG.nil ?_
              | refine CG.consG rfl ?_
              | refine ⟨(rfl : plain _ = true), ?_⟩
              | refine ⟨(rfl : nilOk _ = some _), ?_⟩
              | refine ⟨_, ints_len (by assumption), ?_⟩
              | refine ⟨_, ints_addr (by assumption) (by omega) (by omega), ?_⟩
              | refine ⟨_, ints_load (by assumption) (by omega) (by omega), ?_⟩
              | refine ⟨(⟨by omega, by omega⟩ : inI64 _), ?_⟩
              | refine ⟨_, fun tm ha => step1_max rfl (ev_tmp ha rfl) (ev_tmp ha rfl), ?_⟩
              | refine ⟨_, fun tm ha => step1_min rfl (ev_tmp ha rfl) (ev_tmp ha rfl), ?_⟩
              | (refine ⟨fun _ => ?_, fun _ => ?_⟩ <;> first | (exfalso; omega) | skip)
              | fail
            refine ⟨(lN, xs ++ [-1]), (by repeat' first | exact trivial | refine ⟨rfl, ?_⟩ | refine ⟨slot_int (by (try simp only [Int.toNat_natCast]); omega), ?_⟩), (by (try dsimp only); omega), ?_⟩
            exact ⟨by omega, hlN, hby.keepBut kbN (own_apartBox (H0 := H) hl (by omega)), kbN.keepX hky (fun c hc => (hl.lt hc).1), hgx2.push (by decide) (fun h => rfl)⟩
      · have hqy := hq.box hky hbx
        repeat' first
          | refine CO.cons rfl ?_
          | refine CO.nil ?_
          | refine CV.seq ?_
          | refine CV.region callees ?_
          | refine CV.cond ?_
          | refine CV.block ?_
          | refine CV.skip ?_
          | refine CV.exit ?_
          | refine CV.ret ?_
          | refine CV.scope ?_
          | refine CV.draw callees rfl ?_
          | refine CH.cons rfl ?_
          | refine CH.nil ?_
          | refine CO.consG rfl ?_
          | refine CH.consG rfl ?_
          | refine CG.cons rfl ?_
          | refine CR.cons ?_
          | refine CR.nil ?_
          | refine CG.nil ?_
          | refine CG.consG rfl ?_
          | refine ⟨(rfl : plain _ = true), ?_⟩
          | refine ⟨(rfl : nilOk _ = some _), ?_⟩
          | refine ⟨_, ints_len (by assumption), ?_⟩
          | refine ⟨_, ints_addr (by assumption) (by omega) (by omega), ?_⟩
          | refine ⟨_, ints_load (by assumption) (by omega) (by omega), ?_⟩
          | refine ⟨(⟨by omega, by omega⟩ : inI64 _), ?_⟩
          | refine ⟨_, fun tm ha => step1_max rfl (ev_tmp ha rfl) (ev_tmp ha rfl), ?_⟩
          | refine ⟨_, fun tm ha => step1_min rfl (ev_tmp ha rfl) (ev_tmp ha rfl), ?_⟩
          | (refine ⟨_, addrT (by decide), ?_⟩)
          | (refine ⟨VI pk, cell_load ag3 hgy rfl, ?_⟩)
          | (refine ⟨VI (ps), cell_load ag3 hgy rfl, ?_⟩)
          | (refine ⟨_, cell_load ag32 hgy rfl, ?_⟩)
          | refine ⟨_, _, build_one un32 one22 hl.row.oneC.1, ?_⟩
          | (refine ⟨fun _ => ?_, fun _ => ?_⟩ <;> first | (exfalso; omega) | skip)
          | fail
        refine gpush_ask (xs := xs) hqy (by omega) (by omega) (hl.low (by omega)) (fun d hd hd2 => by have h1 := (hl.lt hd).1; have h2 := (hq.own.lt hd2).2; omega) (by omega) ?_
        intro q2 Hd hqd kbd hfd
        have ld := kbd.le
        have hgd2 : Hd.get bt = some (Tc ⟨pk, ps, st, []⟩ q) := by rw [kbd.get bt (by omega) (fun h => by have := (hq.own.lt h).1; omega)]; exact hgy
        repeat' first
          | refine CO.cons rfl ?_
          | refine CO.nil ?_
          | refine CV.seq ?_
          | refine CV.region callees ?_
          | refine CV.cond ?_
          | refine CV.block ?_
          | refine CV.skip ?_
          | refine CV.exit ?_
          | refine CV.ret ?_
          | refine CV.scope ?_
          | refine CV.draw callees rfl ?_
          | refine CH.cons rfl ?_
          | refine CH.nil ?_
          | refine CO.consG rfl ?_
          | refine CH.consG rfl ?_
          | refine CG.cons rfl ?_
          | refine CR.cons ?_
          | refine CR.nil ?_
          | refine CG.nil ?_
          | refine CG.consG rfl ?_
          | refine ⟨(rfl : plain _ = true), ?_⟩
          | refine ⟨(rfl : nilOk _ = some _), ?_⟩
          | refine ⟨_, ints_len (by assumption), ?_⟩
          | refine ⟨_, ints_addr (by assumption) (by omega) (by omega), ?_⟩
          | refine ⟨_, ints_load (by assumption) (by omega) (by omega), ?_⟩
          | refine ⟨(⟨by omega, by omega⟩ : inI64 _), ?_⟩
          | refine ⟨_, fun tm ha => step1_max rfl (ev_tmp ha rfl) (ev_tmp ha rfl), ?_⟩
          | refine ⟨_, fun tm ha => step1_min rfl (ev_tmp ha rfl) (ev_tmp ha rfl), ?_⟩
          | (refine ⟨_, addrT (by decide), ?_⟩)
          | (refine ⟨fun _ => ?_, fun _ => ?_⟩ <;> first | (exfalso; omega) | skip)
          | fail
        refine ⟨_, _, cell_store sz32 hgd2 (Nat.le_of_ble_eq_true rfl) hqd.own.row.oneC.1, by omega, ?_⟩
        generalize hse : Hd.set bt _ = He
        have hge : He.get bt = some (Tc ⟨pk, ps, st, []⟩ q2) := set_get hse
        have ne := set_n hse
        have oe := set_old hse
        have xe : KeepX bt Hd He := by rw [← hse]; exact KeepX.set _ _
        have lz : (ls ++ [xs]).length = ls.length + 1 := by simp
        repeat' first
          | refine CO.cons rfl ?_
          | refine CO.nil ?_
          | refine CV.seq ?_
          | refine CV.region callees ?_
          | refine CV.cond ?_
          | refine CV.block ?_
          | refine CV.skip ?_
          | refine CV.exit ?_
          | refine CV.ret ?_
          | refine CV.scope ?_
          | refine CV.draw callees rfl ?_
          | refine CH.cons rfl ?_
          | refine CH.nil ?_
          | refine CO.consG rfl ?_
          | refine CH.consG rfl ?_
          | refine CG.cons rfl ?_
          | refine CR.cons ?_
          | refine CR.nil ?_
          | refine CG.nil ?_
          | refine CG.consG rfl ?_
          | refine ⟨(rfl : plain _ = true), ?_⟩
          | refine ⟨(rfl : nilOk _ = some _), ?_⟩
          | refine ⟨_, ints_len (by assumption), ?_⟩
          | refine ⟨_, ints_addr (by assumption) (by omega) (by omega), ?_⟩
          | refine ⟨_, ints_load (by assumption) (by omega) (by omega), ?_⟩
          | refine ⟨(⟨by omega, by omega⟩ : inI64 _), ?_⟩
          | refine ⟨_, fun tm ha => step1_max rfl (ev_tmp ha rfl) (ev_tmp ha rfl), ?_⟩
          | refine ⟨_, fun tm ha => step1_min rfl (ev_tmp ha rfl) (ev_tmp ha rfl), ?_⟩
          | (refine ⟨fun _ => ?_, fun _ => ?_⟩ <;> first | (exfalso; omega) | skip)
          | fail
        refine ⟨(i - 1, q2, vals ++ [l], ls ++ [xs]), (by repeat' first | exact trivial | refine ⟨rfl, ?_⟩ | refine ⟨slot_int (by (try simp only [Int.toNat_natCast]); omega), ?_⟩), (by (try dsimp only); omega), ?_⟩
        have hbd : Box b Hd := hby.keepBut kbd (own_apartBox (H0 := H) hqy.own (by omega))
        refine ⟨by omega, hqd.keepXc xe hgd2, box_put hbd (by omega) oe ne, keepX_put (kbd.keepX (hkx.trans hky) (fun c hc => by have := (hq.own.lt hc).1; omega)) (by omega) oe ne, hge, ?_, by omega, rows_push hgd ⟨by omega, hgx2⟩⟩
        rw [oe H.n (by omega), kbd.get H.n (by omega) (fun h => by have := (hq.own.lt h).1; omega)]; exact hry
    · have hi00 : i = 0 := by omega
      subst hi00
      have hoq := hq.own.row.oneC.1
      repeat' first
        | refine CO.cons rfl ?_
        | refine CO.nil ?_
        | refine CV.seq ?_
        | refine CV.region callees ?_
        | refine CV.cond ?_
        | refine CV.block ?_
        | refine CV.skip ?_
        | refine CV.exit ?_
        | refine CV.ret ?_
        | refine CV.scope ?_
        | refine CV.draw callees rfl ?_
        | refine CH.cons rfl ?_
        | refine CH.nil ?_
        | refine CO.consG rfl ?_
        | refine CH.consG rfl ?_
        | refine CG.cons rfl ?_
        | refine CR.cons ?_
        | refine CR.nil ?_
        | refine CG.nil ?_
        | refine CG.consG rfl ?_
        | refine ⟨(rfl : plain _ = true), ?_⟩
        | refine ⟨(rfl : nilOk _ = some _), ?_⟩
        | refine ⟨_, ints_len (by assumption), ?_⟩
        | refine ⟨_, ints_addr (by assumption) (by omega) (by omega), ?_⟩
        | refine ⟨_, ints_load (by assumption) (by omega) (by omega), ?_⟩
        | refine ⟨(⟨by omega, by omega⟩ : inI64 _), ?_⟩
        | refine ⟨_, fun tm ha => step1_max rfl (ev_tmp ha rfl) (ev_tmp ha rfl), ?_⟩
        | refine ⟨_, fun tm ha => step1_min rfl (ev_tmp ha rfl) (ev_tmp ha rfl), ?_⟩
        | (refine ⟨_, loadT hgx, ?_⟩)
        | (refine ⟨fun _ => ?_, fun _ => ?_⟩ <;> first | (exfalso; omega) | skip)
        | fail
      refine ⟨_, _, storeT hoq hrx, by omega, ?_⟩
      generalize hse : Hx.set H.n _ = He
      have hge := set_get hse
      have ne := set_n hse
      have oe := set_old hse
      have xe : KeepX H.n Hx He := by rw [← hse]; exact KeepX.set _ _
      repeat' first
        | refine CO.cons rfl ?_
        | refine CO.nil ?_
        | refine CV.seq ?_
        | refine CV.region callees ?_
        | refine CV.cond ?_
        | refine CV.block ?_
        | refine CV.skip ?_
        | refine CV.exit ?_
        | refine CV.ret ?_
        | refine CV.scope ?_
        | refine CV.draw callees rfl ?_
        | refine CH.cons rfl ?_
        | refine CH.nil ?_
        | refine CO.consG rfl ?_
        | refine CH.consG rfl ?_
        | refine CG.cons rfl ?_
        | refine CR.cons ?_
        | refine CR.nil ?_
        | refine CG.nil ?_
        | refine CG.consG rfl ?_
        | refine ⟨(rfl : plain _ = true), ?_⟩
        | refine ⟨(rfl : nilOk _ = some _), ?_⟩
        | refine ⟨_, ints_len (by assumption), ?_⟩
        | refine ⟨_, ints_addr (by assumption) (by omega) (by omega), ?_⟩
        | refine ⟨_, ints_load (by assumption) (by omega) (by omega), ?_⟩
        | refine ⟨(⟨by omega, by omega⟩ : inI64 _), ?_⟩
        | refine ⟨_, fun tm ha => step1_max rfl (ev_tmp ha rfl) (ev_tmp ha rfl), ?_⟩
        | refine ⟨_, fun tm ha => step1_min rfl (ev_tmp ha rfl) (ev_tmp ha rfl), ?_⟩
        | (refine ⟨fun _ => ?_, fun _ => ?_⟩ <;> first | (exfalso; omega) | skip)
        | fail
      refine ⟨_, loadT hge, by simp only [List.all_cons, List.all_nil, notTuple]; rfl, ⟨⟨pk, ps, st, ls⟩, q, vals, rfl, ⟨by show 1 ≤ pk; omega, by show pk ≤ 9; omega, by show 0 ≤ ps; omega, by show ps ≤ pk; omega, by show 1 ≤ st; omega, by show st ≤ 4; omega, ?_, ?_, fun i hi => ⟨(hgd i hi).1, fun j hj => ((hgd i hi).2 j hj).1, fun j hj hp => ((hgd i hi).2 j hj).2 hp⟩, fun h3 => by first | rfl | (exfalso; have : 3 ≤ st := h3; omega)⟩, (hq.keepXc xe hrx).low (by omega)⟩, box_put hbx (by omega) oe ne, keepX_put hkx (by omega) oe ne⟩
      · show 0 < ls.length; omega
      · show ls.length ≤ 12; omega
end Go.Proofs.Ytcpklnekpdhlmaa



/- Tables that are equal, by the program. -/
namespace Go.Proofs.Ytcpklnekpdhlmaa
open Go.AI
set_option maxRecDepth 100000 in
theorem eqLists_spec {B : Nat} {H : Heap} {A A' : Value} {vals vals' : List Value} {ls : List (List Int)} (hB : B ≤ H.n) (hg : Grid H A vals ls) (hg' : Grid H A' vals' ls) (hn : ls.length ≤ 1000) (hx : ∀ i : Nat, i < ls.length → ls[i]!.length < 1000000) :
    CallB Try.prog B 67 [A, A'] H (fun r H' => r = .bool true ∧ H' = H) := by
  refine CV.enter callees false rfl Try.func67 rfl (by kernel_rfl) (Nat.le_of_ble_eq_true rfl) hB ?_
  repeat' first
    | refine CO.cons rfl ?_
    | refine CO.nil ?_
    | refine CV.seq ?_
    | refine CV.region callees ?_
    | refine CV.cond ?_
    | refine CV.block ?_
    | refine CV.skip ?_
    | refine CV.exit ?_
    | refine CV.ret ?_
    | refine CV.scope ?_
    | refine CV.draw callees rfl ?_
    | refine CH.cons rfl ?_
    | refine CH.nil ?_
    | refine CO.consG rfl ?_
    | refine CH.consG rfl ?_
    | refine CG.cons rfl ?_
    | refine CR.cons ?_
    | refine CR.nil ?_
    | refine CG.nil ?_
    | refine CG.consG rfl ?_
    | refine ⟨(rfl : plain _ = true), ?_⟩
    | refine ⟨(rfl : nilOk _ = some _), ?_⟩
    | refine ⟨_, ints_len (by assumption), ?_⟩
    | refine ⟨_, ints_addr (by assumption) (by omega) (by omega), ?_⟩
    | refine ⟨_, ints_load (by assumption) (by omega) (by omega), ?_⟩
    | refine ⟨(⟨by omega, by omega⟩ : inI64 _), ?_⟩
    | refine ⟨_, fun tm ha => step1_max rfl (ev_tmp ha rfl) (ev_tmp ha rfl), ?_⟩
    | refine ⟨_, fun tm ha => step1_min rfl (ev_tmp ha rfl) (ev_tmp ha rfl), ?_⟩
    | refine ⟨_, hg.alen, ?_⟩
    | refine ⟨_, hg'.alen, ?_⟩
    | (refine ⟨fun _ => ?_, fun _ => ?_⟩ <;> first | (exfalso; omega) | skip)
    | fail
  refine CV.loopc ?_
  refine WCv.rounds callees false (α := Nat) (fun i => [(0, A), (1, A'), (5, .int .i64 i)]) (fun i Hz => Hz = H ∧ i ≤ ls.length) (fun i => ls.length - i) (0) (by repeat' first | exact trivial | refine ⟨rfl, ?_⟩ | refine ⟨slot_int (by (try simp only [Int.toNat_natCast]); omega), ?_⟩) ?_ ?_
  · exact ⟨rfl, by omega⟩
  rintro i Hx ⟨rfl, hi⟩ hBx
  by_cases hi2 : i < ls.length
  · repeat' first
      | refine CO.cons rfl ?_
      | refine CO.nil ?_
      | refine CV.seq ?_
      | refine CV.region callees ?_
      | refine CV.cond ?_
      | refine CV.block ?_
      | refine CV.skip ?_
      | refine CV.exit ?_
      | refine CV.ret ?_
      | refine CV.scope ?_
      | refine CV.draw callees rfl ?_
      | refine CH.cons rfl ?_
      | refine CH.nil ?_
      | refine CO.consG rfl ?_
      | refine CH.consG rfl ?_
      | refine CG.cons rfl ?_
      | refine CR.cons ?_
      | refine CR.nil ?_
      | refine CG.nil ?_
      | refine CG.consG rfl ?_
      | refine ⟨(rfl : plain _ = true), ?_⟩
      | refine ⟨(rfl : nilOk _ = some _), ?_⟩
      | refine ⟨_, ints_len (by assumption), ?_⟩
      | refine ⟨_, ints_addr (by assumption) (by omega) (by omega), ?_⟩
      | refine ⟨_, ints_load (by assumption) (by omega) (by omega), ?_⟩
      | refine ⟨(⟨by omega, by omega⟩ : inI64 _), ?_⟩
      | refine ⟨_, fun tm ha => step1_max rfl (ev_tmp ha rfl) (ev_tmp ha rfl), ?_⟩
      | refine ⟨_, fun tm ha => step1_min rfl (ev_tmp ha rfl) (ev_tmp ha rfl), ?_⟩
      | refine ⟨_, hg.alen, ?_⟩
      | refine ⟨_, hg'.alen, ?_⟩
      | refine ⟨_, hg.addr (by omega) (by omega), ?_⟩
      | refine ⟨_, hg.load (by omega) (by omega), ?_⟩
      | refine ⟨_, hg'.addr (by omega) (by omega), ?_⟩
      | refine ⟨_, hg'.load (by omega) (by omega), ?_⟩
      | (refine ⟨fun _ => ?_, fun _ => ?_⟩ <;> first | (exfalso; omega) | skip)
      | fail
    refine (eq_spec hBx (hg.at' i hi2) (hg'.at' i hi2) (hx i hi2)).mono ?_
    rintro r H1 ⟨hr, rfl⟩
    obtain rfl : r = .bool true := by rw [hr]; simp
    repeat' first
      | refine CO.cons rfl ?_
      | refine CO.nil ?_
      | refine CV.seq ?_
      | refine CV.region callees ?_
      | refine CV.cond ?_
      | refine CV.block ?_
      | refine CV.skip ?_
      | refine CV.exit ?_
      | refine CV.ret ?_
      | refine CV.scope ?_
      | refine CV.draw callees rfl ?_
      | refine CH.cons rfl ?_
      | refine CH.nil ?_
      | refine CO.consG rfl ?_
      | refine CH.consG rfl ?_
      | refine CG.cons rfl ?_
      | refine CR.cons ?_
      | refine CR.nil ?_
      | refine CG.nil ?_
      | refine CG.consG rfl ?_
      | refine ⟨(rfl : plain _ = true), ?_⟩
      | refine ⟨(rfl : nilOk _ = some _), ?_⟩
      | refine ⟨_, ints_len (by assumption), ?_⟩
      | refine ⟨_, ints_addr (by assumption) (by omega) (by omega), ?_⟩
      | refine ⟨_, ints_load (by assumption) (by omega) (by omega), ?_⟩
      | refine ⟨(⟨by omega, by omega⟩ : inI64 _), ?_⟩
      | refine ⟨_, fun tm ha => step1_max rfl (ev_tmp ha rfl) (ev_tmp ha rfl), ?_⟩
      | refine ⟨_, fun tm ha => step1_min rfl (ev_tmp ha rfl) (ev_tmp ha rfl), ?_⟩
      | (refine ⟨fun _ => ?_, fun _ => ?_⟩ <;> first | (exfalso; omega) | skip)
      | fail
    refine ⟨(i + 1), (by repeat' first | exact trivial | refine ⟨rfl, ?_⟩ | refine ⟨slot_int (by (try simp only [Int.toNat_natCast]); omega), ?_⟩), (by (try dsimp only); omega), ?_⟩
    exact ⟨rfl, by omega⟩
  · repeat' first
      | refine CO.cons rfl ?_
      | refine CO.nil ?_
      | refine CV.seq ?_
      | refine CV.region callees ?_
      | refine CV.cond ?_
      | refine CV.block ?_
      | refine CV.skip ?_
      | refine CV.exit ?_
      | refine CV.ret ?_
      | refine CV.scope ?_
      | refine CV.draw callees rfl ?_
      | refine CH.cons rfl ?_
      | refine CH.nil ?_
      | refine CO.consG rfl ?_
      | refine CH.consG rfl ?_
      | refine CG.cons rfl ?_
      | refine CR.cons ?_
      | refine CR.nil ?_
      | refine CG.nil ?_
      | refine CG.consG rfl ?_
      | refine ⟨(rfl : plain _ = true), ?_⟩
      | refine ⟨(rfl : nilOk _ = some _), ?_⟩
      | refine ⟨_, ints_len (by assumption), ?_⟩
      | refine ⟨_, ints_addr (by assumption) (by omega) (by omega), ?_⟩
      | refine ⟨_, ints_load (by assumption) (by omega) (by omega), ?_⟩
      | refine ⟨(⟨by omega, by omega⟩ : inI64 _), ?_⟩
      | refine ⟨_, fun tm ha => step1_max rfl (ev_tmp ha rfl) (ev_tmp ha rfl), ?_⟩
      | refine ⟨_, fun tm ha => step1_min rfl (ev_tmp ha rfl) (ev_tmp ha rfl), ?_⟩
      | refine ⟨_, hg.alen, ?_⟩
      | refine ⟨_, hg'.alen, ?_⟩
      | (refine ⟨fun _ => ?_, fun _ => ?_⟩ <;> first | (exfalso; omega) | skip)
      | fail
    exact ⟨rfl, rfl, rfl⟩
set_option maxRecDepth 100000 in
theorem eqTables_spec {B : Nat} {H : Heap} {A A' : Value} {vals vals' : List Value} {t : Tb} (hB : B ≤ H.n) (hg : Grid H A vals t.rs) (hg' : Grid H A' vals' t.rs) (hv : Vt t) :
    CallB Try.prog B 37 [Tv t A, Tv t A'] H (fun r H' => r = .bool true ∧ Keep H H') := by
  have hl := hv.len9
  have hr := hv.row
  have hp := hv.pk9
  refine CV.enter callees false rfl Try.func37 rfl (by kernel_rfl) (Nat.le_of_ble_eq_true rfl) hB ?_
  repeat' first
    | refine CO.cons rfl ?_
    | refine CO.nil ?_
    | refine CV.seq ?_
    | refine CV.region callees ?_
    | refine CV.cond ?_
    | refine CV.block ?_
    | refine CV.skip ?_
    | refine CV.exit ?_
    | refine CV.ret ?_
    | refine CV.scope ?_
    | refine CV.draw callees rfl ?_
    | refine CH.cons rfl ?_
    | refine CH.nil ?_
    | refine CO.consG rfl ?_
    | refine CH.consG rfl ?_
    | refine CG.cons rfl ?_
    | refine CR.cons ?_
    | refine CR.nil ?_
    | refine CG.nil ?_
    | refine CG.consG rfl ?_
    | refine ⟨(rfl : plain _ = true), ?_⟩
    | refine ⟨(rfl : nilOk _ = some _), ?_⟩
    | refine ⟨_, ints_len (by assumption), ?_⟩
    | refine ⟨_, ints_addr (by assumption) (by omega) (by omega), ?_⟩
    | refine ⟨_, ints_load (by assumption) (by omega) (by omega), ?_⟩
    | refine ⟨(⟨by omega, by omega⟩ : inI64 _), ?_⟩
    | refine ⟨_, fun tm ha => step1_max rfl (ev_tmp ha rfl) (ev_tmp ha rfl), ?_⟩
    | refine ⟨_, fun tm ha => step1_min rfl (ev_tmp ha rfl) (ev_tmp ha rfl), ?_⟩
    | (refine ⟨fun _ => ?_, fun _ => ?_⟩ <;> first | (exfalso; omega) | skip)
    | fail
  refine ⟨(by simp only [notTuple]), ?_⟩
  rw [alloc_t hg.oneC.2]
  generalize hs : H.new (Tc t A) = Hs
  have h1 := new_get hs
  have k1 := new_keep hs
  have n1 := new_n hs
  repeat' first
    | refine CO.cons rfl ?_
    | refine CO.nil ?_
    | refine CV.seq ?_
    | refine CV.region callees ?_
    | refine CV.cond ?_
    | refine CV.block ?_
    | refine CV.skip ?_
    | refine CV.exit ?_
    | refine CV.ret ?_
    | refine CV.scope ?_
    | refine CV.draw callees rfl ?_
    | refine CH.cons rfl ?_
    | refine CH.nil ?_
    | refine CO.consG rfl ?_
    | refine CH.consG rfl ?_
    | refine CG.cons rfl ?_
    | refine CR.cons ?_
    | refine CR.nil ?_
    | refine CG.nil ?_
    | refine CG.consG rfl ?_
    | refine ⟨(rfl : plain _ = true), ?_⟩
    | refine ⟨(rfl : nilOk _ = some _), ?_⟩
    | refine ⟨_, ints_len (by assumption), ?_⟩
    | refine ⟨_, ints_addr (by assumption) (by omega) (by omega), ?_⟩
    | refine ⟨_, ints_load (by assumption) (by omega) (by omega), ?_⟩
    | refine ⟨(⟨by omega, by omega⟩ : inI64 _), ?_⟩
    | refine ⟨_, fun tm ha => step1_max rfl (ev_tmp ha rfl) (ev_tmp ha rfl), ?_⟩
    | refine ⟨_, fun tm ha => step1_min rfl (ev_tmp ha rfl) (ev_tmp ha rfl), ?_⟩
    | (refine ⟨fun _ => ?_, fun _ => ?_⟩ <;> first | (exfalso; omega) | skip)
    | fail
  refine ⟨(by simp only [notTuple]), ?_⟩
  rw [alloc_t hg'.oneC.2]
  generalize hs2 : Hs.new (Tc t A') = H2
  have h2 := new_get hs2
  have k2 := new_keep hs2
  have n2 := new_n hs2
  have h12 : H2.get H.n = some (Tc t A) := by rw [k2.2 _ (by omega)]; exact h1
  have kk := k1.trans k2
  repeat' first
    | refine CO.cons rfl ?_
    | refine CO.nil ?_
    | refine CV.seq ?_
    | refine CV.region callees ?_
    | refine CV.cond ?_
    | refine CV.block ?_
    | refine CV.skip ?_
    | refine CV.exit ?_
    | refine CV.ret ?_
    | refine CV.scope ?_
    | refine CV.draw callees rfl ?_
    | refine CH.cons rfl ?_
    | refine CH.nil ?_
    | refine CO.consG rfl ?_
    | refine CH.consG rfl ?_
    | refine CG.cons rfl ?_
    | refine CR.cons ?_
    | refine CR.nil ?_
    | refine CG.nil ?_
    | refine CG.consG rfl ?_
    | refine ⟨(rfl : plain _ = true), ?_⟩
    | refine ⟨(rfl : nilOk _ = some _), ?_⟩
    | refine ⟨_, ints_len (by assumption), ?_⟩
    | refine ⟨_, ints_addr (by assumption) (by omega) (by omega), ?_⟩
    | refine ⟨_, ints_load (by assumption) (by omega) (by omega), ?_⟩
    | refine ⟨(⟨by omega, by omega⟩ : inI64 _), ?_⟩
    | refine ⟨_, fun tm ha => step1_max rfl (ev_tmp ha rfl) (ev_tmp ha rfl), ?_⟩
    | refine ⟨_, fun tm ha => step1_min rfl (ev_tmp ha rfl) (ev_tmp ha rfl), ?_⟩
    | (refine ⟨_, addrT (by decide), ?_⟩)
    | (refine ⟨_, cell_load ag3 h12 rfl, ?_⟩)
    | (refine ⟨_, cell_load ag3 h2 rfl, ?_⟩)
    | (refine ⟨_, cell_load ag32 h12 rfl, ?_⟩)
    | (refine ⟨_, cell_load ag32 h2 rfl, ?_⟩)
    | (refine ⟨fun _ => ?_, fun _ => ?_⟩ <;> first | (exfalso; omega) | skip)
    | fail
  refine (eqLists_spec (by omega) (hg.keep kk) (hg'.keep kk) (by omega) (fun i hi => by have := (hr i hi).1; omega)).mono ?_
  rintro r H3 ⟨rfl, rfl⟩
  repeat' first
    | refine CO.cons rfl ?_
    | refine CO.nil ?_
    | refine CV.seq ?_
    | refine CV.region callees ?_
    | refine CV.cond ?_
    | refine CV.block ?_
    | refine CV.skip ?_
    | refine CV.exit ?_
    | refine CV.ret ?_
    | refine CV.scope ?_
    | refine CV.draw callees rfl ?_
    | refine CH.cons rfl ?_
    | refine CH.nil ?_
    | refine CO.consG rfl ?_
    | refine CH.consG rfl ?_
    | refine CG.cons rfl ?_
    | refine CR.cons ?_
    | refine CR.nil ?_
    | refine CG.nil ?_
    | refine CG.consG rfl ?_
    | refine ⟨(rfl : plain _ = true), ?_⟩
    | refine ⟨(rfl : nilOk _ = some _), ?_⟩
    | refine ⟨_, ints_len (by assumption), ?_⟩
    | refine ⟨_, ints_addr (by assumption) (by omega) (by omega), ?_⟩
    | refine ⟨_, ints_load (by assumption) (by omega) (by omega), ?_⟩
    | refine ⟨(⟨by omega, by omega⟩ : inI64 _), ?_⟩
    | refine ⟨_, fun tm ha => step1_max rfl (ev_tmp ha rfl) (ev_tmp ha rfl), ?_⟩
    | refine ⟨_, fun tm ha => step1_min rfl (ev_tmp ha rfl) (ev_tmp ha rfl), ?_⟩
    | (refine ⟨fun _ => ?_, fun _ => ?_⟩ <;> first | (exfalso; omega) | skip)
    | fail
  exact ⟨rfl, rfl, kk⟩
end Go.Proofs.Ytcpklnekpdhlmaa



/- ScoreOrder: its function answers true. -/
namespace Go.AI
theorem OwnS.keepX {e : TypeId} {s : Nat} {H H' : Heap} {b : Nat} {v : Value} {rs : List (List Value)} {B : Nat} {cs0 : List Value} {e0 : TypeId} (h : OwnS e s H v rs B) (k : KeepX b H H') (hb : H.get b = some (.cells cs0 e0 1)) : OwnS e s H' v rs B := by
  refine ⟨h.1, ?_⟩
  rcases h.2 with h | ⟨b', rfl, h2, h3, h4⟩
  · exact .inl h
  · refine .inr ⟨b', rfl, h2, Nat.lt_of_lt_of_le h3 k.1, ?_⟩
    rw [k.2 b' h3 (by rintro rfl; rw [h4] at hb; cases hb)]; exact h4
end Go.AI
namespace Go.Proofs.Ytcpklnekpdhlmaa
open Go.AI
abbrev OwnD (H : Heap) (v : Value) (l : List Dd) (B : Nat) : Prop := OwnS 54 4 H v (l.map Dl) B
theorem zeroBD : zeroBB Try.prog 54 = some (Dl ⟨0, 0, 0, 0⟩, 32) := by kernel_rfl
theorem buildD1 {H : Heap} {d : Dd} : abuildSlice Try.prog H 56 1 [(0, Dv d)] = some (.slice (some ⟨H.n, 0, none⟩) 1 0, H.new (.cells (Dl d) 54 2), H.n) :=
  build_oneS (row := Dl d) un56 zeroBD (by decide) rfl
theorem dpush_ask {K : Value → Heap → Prop} {B B0 : Nat} {H : Heap} {x : Value} {l : List Dd} {d : Dd} (hx : OwnD H x l B0) (hB0 : B0 ≤ H.n) (hB : B ≤ B0) (hn : l.length < 1000000)
    (hk : ∀ r H', OwnD H' r (l ++ [d]) B0 → KeepBut x H H' → (∀ c, blkOf r = some c → H.n ≤ c) → K r H') :
    ∃ v H' b, aappend Try.prog (H.new (.cells (Dl d) 54 2)) #[56, 56] x (.slice (some ⟨H.n, 0, none⟩) 1 0) = some (v, H', b) ∧ B ≤ b ∧ K v H' :=
  append_askS (z := Dl ⟨0, 0, 0, 0⟩) un56 zeroBD (by decide) rfl hx hB0 hB (by rw [List.length_map]; exact hn) (fun r H' ho => hk r H' (by rw [OwnD, List.map_append]; exact ho))
theorem OwnD.box {b : Nat} {H H' : Heap} {v : Value} {l : List Dd} {B : Nat} (h : OwnD H v l B) (k : KeepX b H H') (hb : Box b H) : OwnD H' v l B := by
  obtain ⟨w, hw⟩ := hb.2; exact h.keepX k hw
end Go.Proofs.Ytcpklnekpdhlmaa

