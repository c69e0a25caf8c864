
/- Stocks made of numbers, of any bounds. -/
import Derived.Test.YtlpkbcgdcimglaaRed
set_option linter.unusedVariables false
set_option linter.unusedSimpArgs false
namespace Go.Proofs.Ytlpkbcgdcimglaa
open Go.AI
set_option linter.unusedVariables false
set_option linter.unusedSimpArgs false
theorem own_low {e : TypeId} {H : Heap} {v : Value} {vs : List Value} {B B' : Nat} (h : Own e H v vs B) (hB : B' ≤ B) : Own e H v vs B' := by
  rcases h with h | ⟨b, h1, h2, h3, h4⟩
  · exact .inl h
  · exact .inr ⟨b, h1, Nat.le_trans hB h2, h3, h4⟩
set_option maxRecDepth 100000 in
theorem stockOfG_spec {B b : Nat} {H : Heap} {kn ct dr : Int} (hkn : 1 ≤ kn ∧ kn ≤ 6) (hct : 1 ≤ ct ∧ ct ≤ 9) (hdr : 1 ≤ dr ∧ dr ≤ 9) (hB : B ≤ b) (hn : B ≤ H.n) (hb : Box b H) :
    CallB Try.prog B 20 [bp b, .int .i64 kn, .int .i64 ct, .int .i64 dr] H (fun r H' => (∃ kv xs d, r = Kv kv d ∧ Own 3 H' kv (xs.map VI) H.n ∧ SV xs d ∧ d ≤ dr ∧ (xs.length : Int) ≤ kn ∧ ∀ i, i < xs.length → xs[i]! ≤ ct) ∧ Box b H' ∧ KeepX b H H') := by
  refine CV.enter callees false rfl Try.func20 rfl (by kernel_rfl) (Nat.le_of_ble_eq_true rfl) hn ?_
  have hbn := hb.1
  repeat' first
    | refine CO.cons rfl ?_
    | refine CO.nil ?_
    | refine CV.seq ?_
    | refine CV.region callees ?_
    | refine CV.cond ?_
    | refine CV.block ?_
    | refine CV.skip ?_
    | refine CV.exit ?_
    | refine CV.ret ?_
    | refine CV.scope ?_
    | refine CV.draw callees (by decide +kernel) ?_
    | refine CH.cons rfl ?_
    | refine CH.nil ?_
    | refine CO.consG rfl ?_
    | refine CH.consG rfl ?_
    | refine CG.cons rfl ?_
    | refine CR.cons ?_
    | refine CR.nil ?_
    | refine CG.nil ?_
    | refine CG.consG rfl ?_
    | refine ⟨(rfl : plain _ = true), ?_⟩
    | refine ⟨(rfl : nilOk _ = some _), ?_⟩
    | refine ⟨_, ints_len (by assumption), ?_⟩
    | refine ⟨_, ints_addr (by assumption) (by omega) (by omega), ?_⟩
    | refine ⟨_, ints_load (by assumption) (by omega) (by omega), ?_⟩
    | refine ⟨(⟨by omega, by omega⟩ : inI64 _), ?_⟩
    | refine ⟨_, fun tm ha => step1_max rfl (ev_tmp ha rfl) (ev_tmp ha rfl), ?_⟩
    | refine ⟨_, fun tm ha => step1_min rfl (ev_tmp ha rfl) (ev_tmp ha rfl), ?_⟩
    | (refine ⟨_, _, allocK, ?_⟩)
    | (refine ⟨fun _ => ?_, fun _ => ?_⟩ <;> first | (exfalso; omega) | skip)
    | fail
  generalize hs8 : H.new (Kc (.slice none 0 0) 0) = H8
  have hg8 := new_get hs8
  have k8 := new_keep hs8
  have n8 := new_n hs8
  obtain ⟨b8, hb8⟩ : ∃ b8, H.n = b8 := ⟨_, rfl⟩
  rw [hb8] at hg8 n8 ⊢
  generalize hs9 : H8.new (Kc (.slice none 0 0) 0) = H9
  have hg9 := new_get hs9
  have k9 := new_keep hs9
  have n9 := new_n hs9
  obtain ⟨b9, hb9⟩ : ∃ b9, H8.n = b9 := ⟨_, rfl⟩
  rw [hb9] at hg9 n9 ⊢
  have k89 := k8.trans k9
  have hg89 : H9.get b8 = some (Kc (.slice none 0 0) 0) := by rw [k9.2 b8 (by omega)]; exact hg8
  have hbx9 := hb.keep k89
  refine (any_spec (l := 1) (h := kn) hB (by omega) hbx9 (by omega) (by omega) (by omega)).mono ?_
  rintro r H1 ⟨⟨n, rfl, h1, h2⟩, hbx1, x1⟩
  have l1 := x1.1
  have hg81 : H1.get b8 = some (Kc (.slice none 0 0) 0) := by rw [x1.2 b8 (by omega) (by omega)]; exact hg89
  have hg91 : H1.get b9 = some (Kc (.slice none 0 0) 0) := by rw [x1.2 b9 (by omega) (by omega)]; exact hg9
  have xH1 := (k89.butX b).trans x1
  have ln0 : ([] : List Int).length = 0 := rfl
  repeat' first
    | refine CO.cons rfl ?_
    | refine CO.nil ?_
    | refine CV.seq ?_
    | refine CV.region callees ?_
    | refine CV.cond ?_
    | refine CV.block ?_
    | refine CV.skip ?_
    | refine CV.exit ?_
    | refine CV.ret ?_
    | refine CV.scope ?_
    | refine CV.draw callees (by decide +kernel) ?_
    | refine CH.cons rfl ?_
    | refine CH.nil ?_
    | refine CO.consG rfl ?_
    | refine CH.consG rfl ?_
    | refine CG.cons rfl ?_
    | refine CR.cons ?_
    | refine CR.nil ?_
    | refine CG.nil ?_
    | refine CG.consG rfl ?_
    | refine ⟨(rfl : plain _ = true), ?_⟩
    | refine ⟨(rfl : nilOk _ = some _), ?_⟩
    | refine ⟨_, ints_len (by assumption), ?_⟩
    | refine ⟨_, ints_addr (by assumption) (by omega) (by omega), ?_⟩
    | refine ⟨_, ints_load (by assumption) (by omega) (by omega), ?_⟩
    | refine ⟨(⟨by omega, by omega⟩ : inI64 _), ?_⟩
    | refine ⟨_, fun tm ha => step1_max rfl (ev_tmp ha rfl) (ev_tmp ha rfl), ?_⟩
    | refine ⟨_, fun tm ha => step1_min rfl (ev_tmp ha rfl) (ev_tmp ha rfl), ?_⟩
    | (refine ⟨fun _ => ?_, fun _ => ?_⟩ <;> first | (exfalso; omega) | skip)
    | fail
  refine CV.loopc ?_
  refine WCv.rounds callees false (α := Value × List Int) (fun (k, l) => [(0, bp b), (2, .int .i64 ct), (3, .int .i64 dr), (8, .pointer (some ⟨b8, 0, none⟩)), (9, .pointer (some ⟨b9, 0, none⟩)), (10, .int .i64 (sumL l)), (11, .int .i64 (n - l.length))]) (fun (k, l) Hz => l.length ≤ n ∧ (∀ i, i < l.length → 1 ≤ l[i]! ∧ l[i]! ≤ ct) ∧ Hz.get b8 = some (Kc (.slice none 0 0) 0) ∧ Hz.get b9 = some (Kc k 0) ∧ Own 3 Hz k (l.map VI) (b9 + 1) ∧ Box b Hz ∧ KeepX b H Hz ∧ H1.n ≤ Hz.n) (fun (k, l) => (n - l.length).toNat) (.slice none 0 0, []) (by repeat' first | exact trivial | refine ⟨rfl, ?_⟩ | refine ⟨slot_int (by (try simp only [Int.toNat_natCast]); omega), ?_⟩) ?_ ?_
  · exact ⟨by simp; omega, fun i hi => by simp at hi, hg81, hg91, .inl ⟨rfl, rfl⟩, hbx1, xH1, Nat.le_refl _⟩
  rintro ⟨k, l⟩ Hx ⟨hlen, hel, hg8x, hg9x, hk, hbx, xx, lx⟩ hBx
  have hsb := sumL_bound l fun i hi => by have := (hel i hi).2; omega
  have hs0 := sumL_nn l fun i hi => by have := (hel i hi).1; omega
  by_cases hi : (l.length : Int) < n
  · repeat' first
      | refine CO.cons rfl ?_
      | refine CO.nil ?_
      | refine CV.seq ?_
      | refine CV.region callees ?_
      | refine CV.cond ?_
      | refine CV.block ?_
      | refine CV.skip ?_
      | refine CV.exit ?_
      | refine CV.ret ?_
      | refine CV.scope ?_
      | refine CV.draw callees (by decide +kernel) ?_
      | refine CH.cons rfl ?_
      | refine CH.nil ?_
      | refine CO.consG rfl ?_
      | refine CH.consG rfl ?_
      | refine CG.cons rfl ?_
      | refine CR.cons ?_
      | refine CR.nil ?_
      | refine CG.nil ?_
      | refine CG.consG rfl ?_
      | refine ⟨(rfl : plain _ = true), ?_⟩
      | refine ⟨(rfl : nilOk _ = some _), ?_⟩
      | refine ⟨_, ints_len (by assumption), ?_⟩
      | refine ⟨_, ints_addr (by assumption) (by omega) (by omega), ?_⟩
      | refine ⟨_, ints_load (by assumption) (by omega) (by omega), ?_⟩
      | refine ⟨(⟨by omega, by omega⟩ : inI64 _), ?_⟩
      | refine ⟨_, fun tm ha => step1_max rfl (ev_tmp ha rfl) (ev_tmp ha rfl), ?_⟩
      | refine ⟨_, fun tm ha => step1_min rfl (ev_tmp ha rfl) (ev_tmp ha rfl), ?_⟩
      | refine CV.wideR callees (by decide +kernel) [(0, []), (1, []), (2, []), (3, []), (4, [1]), (5, [1]), (6, []), (7, []), (8, [])] (by kernel_rfl) ?_
      | (refine ⟨_, addrK0, ?_⟩)
      | (refine ⟨_, cell_load ag22 hg9x rfl, ?_⟩)
      | (refine ⟨fun _ => ?_, fun _ => ?_⟩ <;> first | (exfalso; omega) | skip)
      | fail
    refine (any_spec (l := 1) (h := ct) hB hBx hbx (by omega) (by omega) (by omega)).mono ?_
    rintro r H2 ⟨⟨y, rfl, y1, y2⟩, hb2, x2⟩
    have l2 := x2.1
    have hg82 : H2.get b8 = some (Kc (.slice none 0 0) 0) := by rw [x2.2 b8 (by omega) (by omega)]; exact hg8x
    have hg92 : H2.get b9 = some (Kc k 0) := by rw [x2.2 b9 (by omega) (by omega)]; exact hg9x
    have hk2 := own_box hk x2 hbx
    have xx2 := xx.trans x2
    repeat' first
      | refine CO.cons rfl ?_
      | refine CO.nil ?_
      | refine CV.seq ?_
      | refine CV.region callees ?_
      | refine CV.cond ?_
      | refine CV.block ?_
      | refine CV.skip ?_
      | refine CV.exit ?_
      | refine CV.ret ?_
      | refine CV.scope ?_
      | refine CV.draw callees (by decide +kernel) ?_
      | refine CH.cons rfl ?_
      | refine CH.nil ?_
      | refine CO.consG rfl ?_
      | refine CH.consG rfl ?_
      | refine CG.cons rfl ?_
      | refine CR.cons ?_
      | refine CR.nil ?_
      | refine CG.nil ?_
      | refine CG.consG rfl ?_
      | refine ⟨(rfl : plain _ = true), ?_⟩
      | refine ⟨(rfl : nilOk _ = some _), ?_⟩
      | refine ⟨_, ints_len (by assumption), ?_⟩
      | refine ⟨_, ints_addr (by assumption) (by omega) (by omega), ?_⟩
      | refine ⟨_, ints_load (by assumption) (by omega) (by omega), ?_⟩
      | refine ⟨(⟨by omega, by omega⟩ : inI64 _), ?_⟩
      | refine ⟨_, fun tm ha => step1_max rfl (ev_tmp ha rfl) (ev_tmp ha rfl), ?_⟩
      | refine ⟨_, fun tm ha => step1_min rfl (ev_tmp ha rfl) (ev_tmp ha rfl), ?_⟩
      | (refine ⟨_, addrK0, ?_⟩)
      | (refine ⟨_, cell_load ag22 hg92 rfl, ?_⟩)
      | (refine ⟨(rfl : _ = k), ?_⟩)
      | (refine ⟨hk2.same, ?_⟩)
      | (refine ⟨_, _, build_one un22 one3 rfl, ?_⟩)
      | (refine ⟨fun _ => ?_, fun _ => ?_⟩ <;> first | (exfalso; omega) | skip)
      | fail
    refine push_ask hk2 (by omega) (by omega) (by omega) ?_
    intro r3 H3 hr3 kb3 hf3
    have ly : (l ++ [y]).length = l.length + 1 := by simp
    have sy := sumL_snoc l y
    have ey : ∀ i, i < (l ++ [y]).length → 1 ≤ (l ++ [y])[i]! ∧ (l ++ [y])[i]! ≤ ct := fun i hi => by
      by_cases h : i < l.length
      · rw [app_left h]; exact hel i h
      · have : i = l.length := by omega
        subst this
        rw [at_snoc, if_neg (by omega), if_pos rfl]; exact ⟨y1, y2⟩
    have hly : (l ++ [y])[l.length]! = y := by rw [at_snoc, if_neg (by omega), if_pos rfl]
    generalize l ++ [y] = m at hr3 ly sy ey hly
    have hg83 : H3.get b8 = some (Kc (.slice none 0 0) 0) := by rw [kb3.get b8 (by omega) (fun h => by have := (hk2.lt h).1; omega)]; exact hg82
    have hg93 : H3.get b9 = some (Kc k 0) := by rw [kb3.get b9 (by omega) (fun h => by have := (hk2.lt h).1; omega)]; exact hg92
    have hb3 := hb2.keepBut kb3 (fun h => by have := (hk2.lt h).1; omega)
    have l3 := kb3.le
    have xx3 := kb3.keepX xx2 fun c hc => by have := (hk2.lt hc).1; omega
    repeat' first
      | refine CO.cons rfl ?_
      | refine CO.nil ?_
      | refine CV.seq ?_
      | refine CV.region callees ?_
      | refine CV.cond ?_
      | refine CV.block ?_
      | refine CV.skip ?_
      | refine CV.exit ?_
      | refine CV.ret ?_
      | refine CV.scope ?_
      | refine CV.draw callees (by decide +kernel) ?_
      | refine CH.cons rfl ?_
      | refine CH.nil ?_
      | refine CO.consG rfl ?_
      | refine CH.consG rfl ?_
      | refine CG.cons rfl ?_
      | refine CR.cons ?_
      | refine CR.nil ?_
      | refine CG.nil ?_
      | refine CG.consG rfl ?_
      | refine ⟨(rfl : plain _ = true), ?_⟩
      | refine ⟨(rfl : nilOk _ = some _), ?_⟩
      | refine ⟨_, ints_len (by assumption), ?_⟩
      | refine ⟨_, ints_addr (by assumption) (by omega) (by omega), ?_⟩
      | refine ⟨_, ints_load (by assumption) (by omega) (by omega), ?_⟩
      | refine ⟨(⟨by omega, by omega⟩ : inI64 _), ?_⟩
      | refine ⟨_, fun tm ha => step1_max rfl (ev_tmp ha rfl) (ev_tmp ha rfl), ?_⟩
      | refine ⟨_, fun tm ha => step1_min rfl (ev_tmp ha rfl) (ev_tmp ha rfl), ?_⟩
      | (refine ⟨_, addrK0, ?_⟩)
      | (refine ⟨fun _ => ?_, fun _ => ?_⟩ <;> first | (exfalso; omega) | skip)
      | fail
    refine ⟨_, _, cell_store (i := 0) sz22 hg93 (show 0 < 2 by decide) hr3.row.oneC.1, by omega, ?_⟩
    generalize hs4 : Heap.set H3 b9 _ = H4
    have hg4 : H4.get b9 = some (Kc r3 0) := set_get hs4
    have n4 := set_n hs4
    have x4 : KeepX b9 H3 H4 := by rw [← hs4]; exact KeepX.set _ _
    have hr4 := hr3.keepX x4 hg93
    have hri4 : Ints H4 r3 m := hr4.row
    have hg84 : H4.get b8 = some (Kc (.slice none 0 0) 0) := by rw [set_old hs4 b8 (by omega)]; exact hg83
    have hb4 := box_put hb3 (by omega) (set_old hs4) n4
    have xx4 := keepX_put xx3 (by omega) (set_old hs4) n4
    have hmi : m[(((m.length : Nat) : Int) - 1).toNat]! = y := by rw [show (((m.length : Nat) : Int) - 1).toNat = l.length by omega]; exact hly
    repeat' first
      | refine CO.cons rfl ?_
      | refine CO.nil ?_
      | refine CV.seq ?_
      | refine CV.region callees ?_
      | refine CV.cond ?_
      | refine CV.block ?_
      | refine CV.skip ?_
      | refine CV.exit ?_
      | refine CV.ret ?_
      | refine CV.scope ?_
      | refine CV.draw callees (by decide +kernel) ?_
      | refine CH.cons rfl ?_
      | refine CH.nil ?_
      | refine CO.consG rfl ?_
      | refine CH.consG rfl ?_
      | refine CG.cons rfl ?_
      | refine CR.cons ?_
      | refine CR.nil ?_
      | refine CG.nil ?_
      | refine CG.consG rfl ?_
      | refine ⟨(rfl : plain _ = true), ?_⟩
      | refine ⟨(rfl : nilOk _ = some _), ?_⟩
      | refine ⟨_, ints_len (by assumption), ?_⟩
      | refine ⟨_, ints_addr (by assumption) (by omega) (by omega), ?_⟩
      | refine ⟨_, ints_load (by assumption) (by omega) (by omega), ?_⟩
      | refine ⟨(⟨by omega, by omega⟩ : inI64 _), ?_⟩
      | refine ⟨_, fun tm ha => step1_max rfl (ev_tmp ha rfl) (ev_tmp ha rfl), ?_⟩
      | refine ⟨_, fun tm ha => step1_min rfl (ev_tmp ha rfl) (ev_tmp ha rfl), ?_⟩
      | (refine ⟨_, addrK0, ?_⟩)
      | (refine ⟨_, cell_load ag22 hg4 rfl, ?_⟩)
      | (refine ⟨fun _ => ?_, fun _ => ?_⟩ <;> first | (exfalso; omega) | skip)
      | fail
    rw [hmi]
    repeat' first
      | refine CO.cons rfl ?_
      | refine CO.nil ?_
      | refine CV.seq ?_
      | refine CV.region callees ?_
      | refine CV.cond ?_
      | refine CV.block ?_
      | refine CV.skip ?_
      | refine CV.exit ?_
      | refine CV.ret ?_
      | refine CV.scope ?_
      | refine CV.draw callees (by decide +kernel) ?_
      | refine CH.cons rfl ?_
      | refine CH.nil ?_
      | refine CO.consG rfl ?_
      | refine CH.consG rfl ?_
      | refine CG.cons rfl ?_
      | refine CR.cons ?_
      | refine CR.nil ?_
      | refine CG.nil ?_
      | refine CG.consG rfl ?_
      | refine ⟨(rfl : plain _ = true), ?_⟩
      | refine ⟨(rfl : nilOk _ = some _), ?_⟩
      | refine ⟨_, ints_len (by assumption), ?_⟩
      | refine ⟨_, ints_addr (by assumption) (by omega) (by omega), ?_⟩
      | refine ⟨_, ints_load (by assumption) (by omega) (by omega), ?_⟩
      | refine ⟨(⟨by omega, by omega⟩ : inI64 _), ?_⟩
      | refine ⟨_, fun tm ha => step1_max rfl (ev_tmp ha rfl) (ev_tmp ha rfl), ?_⟩
      | refine ⟨_, fun tm ha => step1_min rfl (ev_tmp ha rfl) (ev_tmp ha rfl), ?_⟩
      | (refine ⟨fun _ => ?_, fun _ => ?_⟩ <;> first | (exfalso; omega) | skip)
      | fail
    refine ⟨(r3, m), (by repeat' first | exact trivial | refine ⟨rfl, ?_⟩ | refine ⟨slot_int (by (try simp only [Int.toNat_natCast]); omega), ?_⟩), (by (try dsimp only); omega), ?_⟩
    exact ⟨by omega, ey, hg84, hg4, hr4, hb4, xx4, by omega⟩
  · have hln : (l.length : Int) = n := by omega
    have hs1 : 1 ≤ sumL l := by
      have := sumL_le l 0 (fun i hi => by have := (hel i hi).1; omega) (by omega)
      have := (hel 0 (by omega)).1
      omega
    repeat' first
      | refine CO.cons rfl ?_
      | refine CO.nil ?_
      | refine CV.seq ?_
      | refine CV.region callees ?_
      | refine CV.cond ?_
      | refine CV.block ?_
      | refine CV.skip ?_
      | refine CV.exit ?_
      | refine CV.ret ?_
      | refine CV.scope ?_
      | refine CV.draw callees (by decide +kernel) ?_
      | refine CH.cons rfl ?_
      | refine CH.nil ?_
      | refine CO.consG rfl ?_
      | refine CH.consG rfl ?_
      | refine CG.cons rfl ?_
      | refine CR.cons ?_
      | refine CR.nil ?_
      | refine CG.nil ?_
      | refine CG.consG rfl ?_
      | refine ⟨(rfl : plain _ = true), ?_⟩
      | refine ⟨(rfl : nilOk _ = some _), ?_⟩
      | refine ⟨_, ints_len (by assumption), ?_⟩
      | refine ⟨_, ints_addr (by assumption) (by omega) (by omega), ?_⟩
      | refine ⟨_, ints_load (by assumption) (by omega) (by omega), ?_⟩
      | refine ⟨(⟨by omega, by omega⟩ : inI64 _), ?_⟩
      | refine ⟨_, fun tm ha => step1_max rfl (ev_tmp ha rfl) (ev_tmp ha rfl), ?_⟩
      | refine ⟨_, fun tm ha => step1_min rfl (ev_tmp ha rfl) (ev_tmp ha rfl), ?_⟩
      | (refine ⟨fun _ => ?_, fun _ => ?_⟩ <;> first | (exfalso; omega) | skip)
      | fail
    refine (any_spec (l := 1) hB hBx hbx (by omega) (by omega) (by omega)).mono ?_
    rintro r H2 ⟨⟨y, rfl, y1, y2⟩, hb2, x2⟩
    have l2 := x2.1
    have hg82 : H2.get b8 = some (Kc (.slice none 0 0) 0) := by rw [x2.2 b8 (by omega) (by omega)]; exact hg8x
    have hg92 : H2.get b9 = some (Kc k 0) := by rw [x2.2 b9 (by omega) (by omega)]; exact hg9x
    have hk2 := own_box hk x2 hbx
    have xx2 := xx.trans x2
    repeat' first
      | refine CO.cons rfl ?_
      | refine CO.nil ?_
      | refine CV.seq ?_
      | refine CV.region callees ?_
      | refine CV.cond ?_
      | refine CV.block ?_
      | refine CV.skip ?_
      | refine CV.exit ?_
      | refine CV.ret ?_
      | refine CV.scope ?_
      | refine CV.draw callees (by decide +kernel) ?_
      | refine CH.cons rfl ?_
      | refine CH.nil ?_
      | refine CO.consG rfl ?_
      | refine CH.consG rfl ?_
      | refine CG.cons rfl ?_
      | refine CR.cons ?_
      | refine CR.nil ?_
      | refine CG.nil ?_
      | refine CG.consG rfl ?_
      | refine ⟨(rfl : plain _ = true), ?_⟩
      | refine ⟨(rfl : nilOk _ = some _), ?_⟩
      | refine ⟨_, ints_len (by assumption), ?_⟩
      | refine ⟨_, ints_addr (by assumption) (by omega) (by omega), ?_⟩
      | refine ⟨_, ints_load (by assumption) (by omega) (by omega), ?_⟩
      | refine ⟨(⟨by omega, by omega⟩ : inI64 _), ?_⟩
      | refine ⟨_, fun tm ha => step1_max rfl (ev_tmp ha rfl) (ev_tmp ha rfl), ?_⟩
      | refine ⟨_, fun tm ha => step1_min rfl (ev_tmp ha rfl) (ev_tmp ha rfl), ?_⟩
      | (refine ⟨_, addrK1, ?_⟩)
      | (refine ⟨fun _ => ?_, fun _ => ?_⟩ <;> first | (exfalso; omega) | skip)
      | fail
    refine ⟨_, _, cell_store (i := 1) sz3 hg92 (show 1 < 2 by decide) rfl, by omega, ?_⟩
    generalize hs4 : Heap.set H2 b9 _ = H4
    have hg4 : H4.get b9 = some (Kc k y) := set_get hs4
    have n4 := set_n hs4
    have x4 : KeepX b9 H2 H4 := by rw [← hs4]; exact KeepX.set _ _
    have hk4 := hk2.keepX x4 hg92
    have hg84 : H4.get b8 = some (Kc (.slice none 0 0) 0) := by rw [set_old hs4 b8 (by omega)]; exact hg82
    have hb4 := box_put hb2 (by omega) (set_old hs4) n4
    have xx4 := keepX_put xx2 (by omega) (set_old hs4) n4
    repeat' first
      | refine CO.cons rfl ?_
      | refine CO.nil ?_
      | refine CV.seq ?_
      | refine CV.region callees ?_
      | refine CV.cond ?_
      | refine CV.block ?_
      | refine CV.skip ?_
      | refine CV.exit ?_
      | refine CV.ret ?_
      | refine CV.scope ?_
      | refine CV.draw callees (by decide +kernel) ?_
      | refine CH.cons rfl ?_
      | refine CH.nil ?_
      | refine CO.consG rfl ?_
      | refine CH.consG rfl ?_
      | refine CG.cons rfl ?_
      | refine CR.cons ?_
      | refine CR.nil ?_
      | refine CG.nil ?_
      | refine CG.consG rfl ?_
      | refine ⟨(rfl : plain _ = true), ?_⟩
      | refine ⟨(rfl : nilOk _ = some _), ?_⟩
      | refine ⟨_, ints_len (by assumption), ?_⟩
      | refine ⟨_, ints_addr (by assumption) (by omega) (by omega), ?_⟩
      | refine ⟨_, ints_load (by assumption) (by omega) (by omega), ?_⟩
      | refine ⟨(⟨by omega, by omega⟩ : inI64 _), ?_⟩
      | refine ⟨_, fun tm ha => step1_max rfl (ev_tmp ha rfl) (ev_tmp ha rfl), ?_⟩
      | refine ⟨_, fun tm ha => step1_min rfl (ev_tmp ha rfl) (ev_tmp ha rfl), ?_⟩
      | (refine ⟨_, loadK hg4, ?_⟩)
      | (refine ⟨fun _ => ?_, fun _ => ?_⟩ <;> first | (exfalso; omega) | skip)
      | fail
    refine ⟨_, _, storeK hk4.row.oneC.1 hg84, by omega, ?_⟩
    generalize hs5 : Heap.set H4 b8 _ = H5
    have hg5 := set_get hs5
    have n5 := set_n hs5
    have x5 : KeepX b8 H4 H5 := by rw [← hs5]; exact KeepX.set _ _
    have hk5 := hk4.keepX x5 hg84
    have hb5 := box_put hb4 (by omega) (set_old hs5) n5
    have xx5 := keepX_put xx4 (by omega) (set_old hs5) n5
    repeat' first
      | refine CO.cons rfl ?_
      | refine CO.nil ?_
      | refine CV.seq ?_
      | refine CV.region callees ?_
      | refine CV.cond ?_
      | refine CV.block ?_
      | refine CV.skip ?_
      | refine CV.exit ?_
      | refine CV.ret ?_
      | refine CV.scope ?_
      | refine CV.draw callees (by decide +kernel) ?_
      | refine CH.cons rfl ?_
      | refine CH.nil ?_
      | refine CO.consG rfl ?_
      | refine CH.consG rfl ?_
      | refine CG.cons rfl ?_
      | refine CR.cons ?_
      | refine CR.nil ?_
      | refine CG.nil ?_
      | refine CG.consG rfl ?_
      | refine ⟨(rfl : plain _ = true), ?_⟩
      | refine ⟨(rfl : nilOk _ = some _), ?_⟩
      | refine ⟨_, ints_len (by assumption), ?_⟩
      | refine ⟨_, ints_addr (by assumption) (by omega) (by omega), ?_⟩
      | refine ⟨_, ints_load (by assumption) (by omega) (by omega), ?_⟩
      | refine ⟨(⟨by omega, by omega⟩ : inI64 _), ?_⟩
      | refine ⟨_, fun tm ha => step1_max rfl (ev_tmp ha rfl) (ev_tmp ha rfl), ?_⟩
      | refine ⟨_, fun tm ha => step1_min rfl (ev_tmp ha rfl) (ev_tmp ha rfl), ?_⟩
      | (refine ⟨fun _ => ?_, fun _ => ?_⟩ <;> first | (exfalso; omega) | skip)
      | fail
    exact ⟨_, loadK hg5, rfl, ⟨k, l, y, rfl, own_low hk5 (by omega), ⟨by omega, by omega, fun i hi => by have := hel i hi; omega, by omega, by omega, by omega⟩, by omega, by omega, fun i hi => (hel i hi).2⟩, hb5, xx5⟩
end Go.Proofs.Ytlpkbcgdcimglaa
