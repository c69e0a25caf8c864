
/- Copies of seasons; whether two are equal; those that are vast. -/
import Derived.Test.Ytjjmnfgnlcbfhaaf6o
import Derived.Test.Ytjjmnfgnlcbfhaad5o
set_option linter.unusedVariables false
set_option linter.unusedSimpArgs false
namespace Go.Proofs.Ytjjmnfgnlcbfhaa
open Go.AI
set_option maxHeartbeats 16000000 in
set_option maxRecDepth 100000 in
theorem lists_spec [Orc] {B : Nat} {H : Heap} {v : Value} {vs : List Value} {gs : List (List Int)} (hB : B ≤ H.n) (hg : Gri H v vs gs) (hgn : gs.length < 1000000) (hgl : ∀ i, i < gs.length → gs[i]!.length < 1000000) :
    CallB Try.prog B 102 [v] H (fun r H' => (∃ ws, Own 29 H' r ws H.n ∧ Gri H' r ws gs) ∧ Keep H H') := by
  refine CV.enter callees false (Orc.hv rfl rfl) Try.func102 rfl (by kernel_rfl) (Nat.le_of_ble_eq_true rfl) hB ?_ (Orc.hw rfl rfl)
  repeat' first
    | refine CO.cons rfl ?_
    | refine CO.nil ?_
    | refine CV.seq ?_
    | refine CV.region callees ?_
    | refine CV.block ?_
    | fail
  refine CV.loopc ?_
  refine WCv.rounds callees false (α := Nat × Value × List Value) (fun (i, q, ws) => [(0, v), (3, q), (4, VI i)]) (fun (i, q, ws) Hz => i ≤ gs.length ∧ ws.length = i ∧ Own 29 Hz q ws H.n ∧ (∀ j, j < i → Own 3 Hz ws[j]! (gs[j]!.map VI) H.n ∧ (∀ c, blkOf ws[j]! = some c → blkOf q ≠ some c)) ∧ Keep H Hz) (fun (i, q, ws) => gs.length - i) (0, nilS, []) (by repeat' first | exact trivial | refine ⟨rfl, ?_⟩ | refine ⟨slot_int (by (try simp only [Int.toNat_natCast]); omega), ?_⟩) ?_ ?_
  · exact ⟨by omega, rfl, .inl ⟨rfl, rfl⟩, fun j h => by omega, Keep.refl _⟩
  rintro ⟨i, q, ws⟩ Hx ⟨hi, hwl, hq, hws, kx⟩ hBx
  have lx := kx.1
  have hgx := hg.keep kx
  by_cases hi2 : i < gs.length
  · have had := hgx.addr hi2
    have hld := hgx.load hi2
    have hli := hgl i hi2
    repeat' first
      | refine CO.cons rfl ?_
      | refine CO.nil ?_
      | refine CV.seq ?_
      | refine CV.region callees ?_
      | refine CV.cond ?_
      | refine CV.block ?_
      | refine CV.skip ?_
      | (refine ⟨_, hgx.alen, ?_⟩)
      | (refine ⟨_, had, ?_⟩)
      | (refine ⟨_, hld, ?_⟩)
      | (refine ⟨fun _ => ?_, fun _ => ?_⟩ <;> first | (exfalso; omega) | skip)
      | fail
    refine (ints_spec (by omega) (hgx.ints i hi2) (by omega)).mono ?_
    rintro w H2 ⟨hw, k2⟩
    have l2 := k2.1
    have hq2 := hq.keep k2
    have hqa : ∀ c, blkOf q = some c → H.n ≤ c ∧ c < Hx.n := fun c hc => hq.lt hc
    have hwa : ∀ c, blkOf w = some c → Hx.n ≤ c ∧ c < H2.n := fun c hc => hw.lt hc
    repeat' first
      | refine CO.cons rfl ?_
      | (refine ⟨_, _, build_one unG oneN (Row.oneC hw.row).1, ?_⟩)
      | fail
    refine append_askW unG oneN (by omega) hq2 (by omega) (by omega) (by omega) ?_
    intro q9 H9 hq9 kb9 hf9
    have l9 := kb9.le
    repeat' first
      | refine CO.cons rfl ?_
      | refine CO.nil ?_
      | refine CV.region callees ?_
      | refine ⟨(⟨by omega, by omega⟩ : inI64 _), ?_⟩
      | fail
    refine ⟨(i + 1, q9, ws ++ [w]), (by repeat' first | exact trivial | refine ⟨rfl, ?_⟩ | refine ⟨slot_int (by (try simp only [Int.toNat_natCast]); omega), ?_⟩), (by (try dsimp only); omega), ?_⟩
    refine ⟨by omega, by simp [hwl], hq9, fun j hj => ?_, kb9.keep (kx.trans k2) fun c hc => (hqa c hc).1⟩
    by_cases hj2 : j < i
    · have hnd : (ws ++ [w])[j]! = ws[j]! := by
        rw [getElem!_pos _ j (by rw [List.length_append]; omega), List.getElem_append_left (by omega), getElem!_pos ws j (by omega)]
      rw [hnd]
      obtain ⟨h1, h2⟩ := hws j hj2
      have h1' := h1.keep k2
      refine ⟨own_keepF h1' l9 fun c hc => kb9.get c (h1'.lt hc).2 (h2 c hc), fun c hc h => ?_⟩
      have := hf9 c h
      have := (h1'.lt hc).2
      omega
    · obtain rfl : j = i := by omega
      have hnd : (ws ++ [w])[j]! = w := by
        rw [getElem!_pos _ j (by rw [List.length_append, List.length_singleton]; omega), List.getElem_append_right (by omega)]
        simp
      rw [hnd]
      have hw' : Own 3 H2 w (gs[j]!.map VI) H.n := Own.lower hw lx
      refine ⟨own_keepF hw' l9 fun c hc => kb9.get c (hwa c hc).2 (fun h => by have := hqa c h; have := hwa c hc; omega), fun c hc h => ?_⟩
      have := hf9 c h
      have := hwa c hc
      omega
  obtain rfl : i = gs.length := by omega
  repeat' first
    | refine CO.cons rfl ?_
    | refine CO.nil ?_
    | refine CV.seq ?_
    | refine CV.region callees ?_
    | refine CV.cond ?_
    | refine CV.exit ?_
    | refine CV.ret ?_
    | (refine ⟨_, hgx.alen, ?_⟩)
    | (refine ⟨fun _ => ?_, fun _ => ?_⟩ <;> first | (exfalso; omega) | skip)
    | fail
  exact ⟨by simp only [List.all_cons, List.all_nil, hq.notTuple]; rfl, ⟨ws, hq, hq.row, hwl, fun j hj => (hws j hj).1.row⟩, kx⟩
theorem buSe0 {x y : Option Addr} {n m c d : Nat} : abuild Try.prog 68 [(0, .slice x n c), (1, .slice y m d)] = some (Sev (.slice x n c) (.slice y m d)) := by kernel_rfl
theorem row_sl {H : Heap} {v : Value} {vs : List Value} (h : Row H v vs) : ∃ x n c, v = .slice x n c := by
  rcases h with ⟨rfl, _⟩ | ⟨rfl, _⟩ | ⟨b, i, c, cs, e, kd, rfl, _⟩
  · exact ⟨_, _, _, rfl⟩
  · exact ⟨_, _, _, rfl⟩
  · exact ⟨_, _, _, rfl⟩
theorem buSe {H : Heap} {s g : Value} {vs ws : List Value} (hs : Row H s vs) (hg : Row H g ws) : abuild Try.prog 68 [(0, s), (1, g)] = some (Sev s g) := by
  obtain ⟨x, n, c, rfl⟩ := row_sl hs
  obtain ⟨y, m, d, rfl⟩ := row_sl hg
  exact buSe0
set_option maxHeartbeats 16000000 in
set_option maxRecDepth 100000 in
theorem ownSeason_spec [Orc] {B : Nat} {H : Heap} {s g : Value} {vs : List Value} {st : List Int} {gs : List (List Int)} (hB : B ≤ H.n) (hs : Ints H s st) (hg : Gri H g vs gs) (hsn : st.length < 1000000) (hgn : gs.length < 1000000) (hgl : ∀ i, i < gs.length → gs[i]!.length < 1000000) :
    CallB Try.prog B 46 [Sev s g] H (fun r H' => (∃ s' g' ws, r = Sev s' g' ∧ Own 3 H' s' (st.map VI) H.n ∧ Own 29 H' g' ws H.n ∧ Gri H' g' ws gs) ∧ Keep H H') := by
  refine CV.enter callees false (Orc.hv rfl rfl) Try.func46 rfl (by kernel_rfl) (Nat.le_of_ble_eq_true rfl) hB ?_ (Orc.hw rfl rfl)
  repeat' first
    | refine CO.cons rfl ?_
    | refine CV.seq ?_
    | refine CV.region callees ?_
    | fail
  refine ⟨(by simp only [notTuple]), ?_⟩
  rw [boxSe]
  generalize hs0 : Heap.new H _ = H0
  have hg0 := new_get hs0
  have k0 := new_keep hs0
  have n0 := new_n hs0
  obtain ⟨b0, hbn0⟩ : ∃ b, Heap.n H = b := ⟨_, rfl⟩
  rw [hbn0] at hg0 n0 ⊢
  repeat' first
    | refine CO.cons rfl ?_
    | refine CO.nil ?_
    | refine CV.seq ?_
    | (refine ⟨_, _, alSe, ?_⟩)
    | fail
  generalize hs1 : Heap.new H0 _ = H1
  have hg1 := new_get hs1
  have k1 := new_keep hs1
  have n1 := new_n hs1
  obtain ⟨b1, hbn1⟩ : ∃ b, Heap.n H0 = b := ⟨_, rfl⟩
  rw [hbn1] at hg1 n1 ⊢
  have k01 := k0.trans k1
  have hS1 := (k1.2 b0 (by omega)).trans hg0
  have hs1 : Ints H1 s st := hs.keep k01
  have hgr1 := hg.keep k01
  repeat' first
    | refine CR.cons (es := []) ?_
    | refine CR.call ?_
    | refine CV.wideR callees (by decide +kernel) [(0, []), (1, []), (3, []), (4, []), (2, [4]), (5, []), (6, []), (7, [])] (by kernel_rfl) ?_
    | (refine ⟨_, fS fe0 (by decide), ?_⟩)
    | (refine ⟨_, cell_load agN hS1 rfl, ?_⟩)
    | (refine ⟨_, fS fe1 (by decide), ?_⟩)
    | fail
  refine (ints_spec (Nat.le_refl _) hs1 hsn).mono ?_
  rintro s' H2 ⟨hs2, k2⟩
  have l2 := k2.1
  have hgr2 := hgr1.keep k2
  repeat' first
    | refine CR.cons (es := []) ?_
    | fail
  refine (lists_spec (by omega) hgr2 hgn hgl).mono ?_
  rintro g' H3 ⟨⟨ws, hw, hgr3⟩, k3⟩
  have l3 := k3.1
  have hs3 := hs2.keep k3
  have hbu : abuild Try.prog 68 [(0, s'), (1, g')] = some (Sev s' g') := buSe hs3.row hgr3.row
  have hz3 := (k3.2 b1 (by omega)).trans ((k2.2 b1 (by omega)).trans hg1)
  repeat' first
    | refine CR.cons (es := []) ?_
    | (refine ⟨_, hbu, ?_⟩)
    | fail
  refine ⟨_, _, stSe (Row.oneC hs3.row).1 (Row.oneC hw.row).1 hz3, by omega, ?_⟩
  generalize hs5 : Heap.set H3 b1 _ = H5
  have hg5 : H5.get b1 = some (.cells ([s', g']) 68 1) := set_get hs5
  have n5 := set_n hs5
  have o5 := set_old hs5
  repeat' first
    | refine CV.ret ?_
    | refine CR.nil ?_
    | fail
  have k03 := (k01.trans k2).trans k3
  have l03 := k03.1
  have l01 := k01.1
  have o5x : ∀ c, c ≠ b1 → H5.get c = H3.get c := o5
  have kA : KeepX b1 H3 H5 := ⟨by omega, fun c hc hcl => o5 c hcl⟩
  exact ⟨_, ldSe hg5, rfl, ⟨s', g', ws, rfl, Own.lower (Own.keepX hs3 kA hz3) (by omega), Own.lower (Own.keepX hw kA hz3) (by omega), ⟨Row.keepX hgr3.row kA hz3, hgr3.len, fun i hi => Row.keepX (hgr3.ints i hi) kA hz3⟩⟩, by omega, fun p hp => (o5 p (by omega)).trans (k03.2 p hp)⟩
set_option maxHeartbeats 16000000 in
set_option maxRecDepth 100000 in
theorem eqLists_spec [Orc] {B : Nat} {H : Heap} {v w : Value} {vs ws : List Value} {gs : List (List Int)} (hB : B ≤ H.n) (hv : Gri H v vs gs) (hw : Gri H w ws gs) (hgn : gs.length < 1000000) (hgl : ∀ i, i < gs.length → gs[i]!.length < 1000000) :
    CallB Try.prog B 28 [v, w] H (fun r H' => r = .bool true ∧ Keep H H') := by
  refine CV.enter callees false (Orc.hv rfl rfl) Try.func28 rfl (by kernel_rfl) (Nat.le_of_ble_eq_true rfl) hB ?_ (Orc.hw rfl rfl)
  repeat' first
    | refine CO.cons rfl ?_
    | refine CO.nil ?_
    | refine CV.seq ?_
    | refine CV.region callees ?_
    | refine CV.cond ?_
    | refine CV.block ?_
    | refine CV.skip ?_
    | (refine ⟨_, hv.alen, ?_⟩)
    | (refine ⟨_, hw.alen, ?_⟩)
    | (refine ⟨fun _ => ?_, fun _ => ?_⟩ <;> first | (exfalso; omega) | skip)
    | fail
  refine CV.loopc ?_
  refine WCv.rounds callees false (α := Nat) (fun i => [(0, v), (1, w), (5, VI i)]) (fun i Hz => i ≤ gs.length ∧ Keep H Hz) (fun i => gs.length - i) (0) (by repeat' first | exact trivial | refine ⟨rfl, ?_⟩ | refine ⟨slot_int (by (try simp only [Int.toNat_natCast]); omega), ?_⟩) ?_ ?_
  · exact ⟨by omega, Keep.refl _⟩
  rintro i Hx ⟨hi, kx⟩ hBx
  have lx := kx.1
  have hvx := hv.keep kx
  have hwx := hw.keep kx
  by_cases hi2 : i < gs.length
  · have h1 := hvx.addr hi2
    have h2 := hvx.load hi2
    have h3 := hwx.addr hi2
    have h4 := hwx.load hi2
    repeat' first
      | refine CO.cons rfl ?_
      | refine CO.nil ?_
      | refine CV.seq ?_
      | refine CV.region callees ?_
      | refine CV.cond ?_
      | refine CV.block ?_
      | refine CV.skip ?_
      | refine CV.draw callees (by decide +kernel) ?_
      | refine CH.cons rfl ?_
      | refine CH.nil ?_
      | (refine ⟨_, hvx.alen, ?_⟩)
      | (refine ⟨_, h1, ?_⟩)
      | (refine ⟨_, h2, ?_⟩)
      | (refine ⟨_, h3, ?_⟩)
      | (refine ⟨_, h4, ?_⟩)
      | (refine ⟨fun _ => ?_, fun _ => ?_⟩ <;> first | (exfalso; omega) | skip)
      | fail
    refine (eqInts_spec (by omega) (hvx.ints i hi2) (hwx.ints i hi2) (hgl i hi2)).mono ?_
    rw [decide_eq_true rfl]
    rintro r H2 ⟨rfl, k2⟩
    repeat' first
      | refine CO.cons rfl ?_
      | refine CO.nil ?_
      | refine CV.region callees ?_
      | refine CV.cond ?_
      | refine CV.skip ?_
      | refine CH.cons rfl ?_
      | refine CH.nil ?_
      | refine ⟨(⟨by omega, by omega⟩ : inI64 _), ?_⟩
      | fail
    refine ⟨(i + 1), (by repeat' first | exact trivial | refine ⟨rfl, ?_⟩ | refine ⟨slot_int (by (try simp only [Int.toNat_natCast]); omega), ?_⟩), (by (try dsimp only); omega), ?_⟩
    exact ⟨by omega, kx.trans k2⟩
  obtain rfl : i = gs.length := by omega
  repeat' first
    | refine CO.cons rfl ?_
    | refine CO.nil ?_
    | refine CV.seq ?_
    | refine CV.region callees ?_
    | refine CV.cond ?_
    | refine CV.exit ?_
    | refine CV.ret ?_
    | (refine ⟨_, hvx.alen, ?_⟩)
    | (refine ⟨fun _ => ?_, fun _ => ?_⟩ <;> first | (exfalso; omega) | skip)
    | fail
  exact ⟨rfl, rfl, kx⟩
set_option maxRecDepth 100000 in
theorem eqSeasons_spec [Orc] {B : Nat} {H : Heap} {s g s' g' : Value} {vs ws : List Value} {st : List Int} {gs : List (List Int)} (hB : B ≤ H.n) (hs : Ints H s st) (hg : Gri H g vs gs) (hs' : Ints H s' st) (hg' : Gri H g' ws gs) (hsn : st.length < 1000000) (hgn : gs.length < 1000000) (hgl : ∀ i, i < gs.length → gs[i]!.length < 1000000) :
    CallB Try.prog B 54 [Sev s g, Sev s' g'] H (fun r H' => r = .bool true ∧ Keep H H') := by
  refine CV.enter callees false (Orc.hv rfl rfl) Try.func54 rfl (by kernel_rfl) (Nat.le_of_ble_eq_true rfl) hB ?_ (Orc.hw rfl rfl)
  repeat' first
    | refine CO.cons rfl ?_
    | refine CV.seq ?_
    | refine CV.region callees ?_
    | fail
  refine ⟨(by simp only [notTuple]), ?_⟩
  rw [boxSe]
  generalize hs0 : Heap.new H _ = H0
  have hg0 := new_get hs0
  have k0 := new_keep hs0
  have n0 := new_n hs0
  obtain ⟨b0, hbn0⟩ : ∃ b, Heap.n H = b := ⟨_, rfl⟩
  rw [hbn0] at hg0 n0 ⊢
  repeat' first
    | refine CO.cons rfl ?_
    | fail
  refine ⟨(by simp only [notTuple]), ?_⟩
  rw [boxSe]
  generalize hs1 : Heap.new H0 _ = H1
  have hg1 := new_get hs1
  have k1 := new_keep hs1
  have n1 := new_n hs1
  obtain ⟨b1, hbn1⟩ : ∃ b, Heap.n H0 = b := ⟨_, rfl⟩
  rw [hbn1] at hg1 n1 ⊢
  have hS1 := (k1.2 b0 (by omega)).trans hg0
  have k01 := k0.trans k1
  have h1 : Ints H1 s st := hs.keep k01
  have h2 : Ints H1 s' st := hs'.keep k01
  repeat' first
    | refine CO.cons rfl ?_
    | refine CO.nil ?_
    | refine CV.seq ?_
    | refine CV.region callees ?_
    | (refine ⟨_, fS fe0 (by decide), ?_⟩)
    | (refine ⟨_, cell_load agN hS1 rfl, ?_⟩)
    | (refine ⟨_, cell_load agN hg1 rfl, ?_⟩)
    | fail
  refine (eqInts_spec (by omega) h1 h2 hsn).mono ?_
  rw [decide_eq_true rfl]
  rintro r H2 ⟨rfl, k2⟩
  have hS2 := (k2.2 b0 (by omega)).trans hS1
  have hT2 := (k2.2 b1 (by omega)).trans hg1
  have l2 := k2.1
  repeat' first
    | refine CO.cons rfl ?_
    | refine CO.consG rfl ?_
    | (refine ⟨_, fS fe1 (by decide), ?_⟩)
    | (refine ⟨_, cell_load agGr hS2 rfl, ?_⟩)
    | (refine ⟨_, cell_load agGr hT2 rfl, ?_⟩)
    | fail
  refine (eqLists_spec (by omega) (hg.keep (k01.trans k2)) (hg'.keep (k01.trans k2)) hgn hgl).mono ?_
  rintro r H3 ⟨rfl, k3⟩
  repeat' first
    | refine CO.cons rfl ?_
    | refine CO.nil ?_
    | refine CV.ret ?_
    | fail
  exact ⟨rfl, rfl, (k01.trans k2).trans k3⟩
set_option maxRecDepth 100000 in
theorem vast_spec [Orc] {B : Nat} {H : Heap} {s g : Value} {vs : List Value} {st : List Int} {gs : List (List Int)} (hB : B ≤ H.n) (hs : Ints H s st) (hg : Gri H g vs gs) (hgn : gs.length ≤ 9223372036854775807) (hgl : ∀ i, i < gs.length → gs[i]!.length ≤ 9223372036854775807) :
    CallB Try.prog B 43 [Sev s g] H (fun r H' => (r = .bool true ∨ (r = .bool false ∧ st.length ≤ 20 ∧ gs.length ≤ 20 ∧ ∀ i, i < gs.length → gs[i]!.length ≤ 20)) ∧ Keep H H') := by
  refine CV.enter callees false (Orc.hv rfl rfl) Try.func43 rfl (by kernel_rfl) (Nat.le_of_ble_eq_true rfl) hB ?_ (Orc.hw rfl rfl)
  repeat' first
    | refine CO.cons rfl ?_
    | refine CV.seq ?_
    | refine CV.region callees ?_
    | fail
  refine ⟨(by simp only [notTuple]), ?_⟩
  rw [boxSe]
  generalize hs0 : Heap.new H _ = H0
  have hg0 := new_get hs0
  have k0 := new_keep hs0
  have n0 := new_n hs0
  obtain ⟨b0, hbn0⟩ : ∃ b, Heap.n H = b := ⟨_, rfl⟩
  rw [hbn0] at hg0 n0 ⊢
  have hs0 : Ints H0 s st := hs.keep k0
  have hgr := hg.keep k0
  repeat' first
    | refine CO.cons rfl ?_
    | refine CO.nil ?_
    | refine CV.seq ?_
    | refine CV.region callees ?_
    | refine CV.block ?_
    | fail
  refine CV.loopc ?_
  refine WCv.rounds callees false (α := Nat) (fun i => [(1, .pointer (some ⟨b0, 0, none⟩)), (3, VI i)]) (fun i Hz => i ≤ gs.length ∧ (∀ j, j < i → gs[j]!.length ≤ 20) ∧ Hz = H0) (fun i => gs.length - i) (0) (by repeat' first | exact trivial | refine ⟨rfl, ?_⟩ | refine ⟨slot_int (by (try simp only [Int.toNat_natCast]); omega), ?_⟩) ?_ ?_
  · exact ⟨by omega, fun j h => by omega, rfl⟩
  rintro i Hx ⟨hi, hw, rfl⟩ hBx
  by_cases hi2 : i < gs.length
  · have had := hgr.addr hi2
    have hld := hgr.load hi2
    have hli : Ints Hx vs[i]! gs[i]! := hgr.ints i hi2
    by_cases c1 : 20 < gs[i]!.length
    · repeat' first
        | refine CO.cons rfl ?_
        | refine CO.nil ?_
        | refine CV.seq ?_
        | refine CV.region callees ?_
        | refine CV.cond ?_
        | refine CV.block ?_
        | refine CV.skip ?_
        | refine CV.ret ?_
        | refine ⟨_, ints_len (by assumption), ?_⟩
        | (refine ⟨_, fS fe1 (by decide), ?_⟩)
        | (refine ⟨_, cell_load agGr hg0 rfl, ?_⟩)
        | (refine ⟨_, hgr.alen, ?_⟩)
        | (refine ⟨_, had, ?_⟩)
        | (refine ⟨_, hld, ?_⟩)
        | (refine ⟨fun _ => ?_, fun _ => ?_⟩ <;> first | (exfalso; omega) | skip)
        | fail
      exact ⟨rfl, .inl rfl, k0⟩
    · repeat' first
        | refine CO.cons rfl ?_
        | refine CO.nil ?_
        | refine CV.seq ?_
        | refine CV.region callees ?_
        | refine CV.cond ?_
        | refine CV.block ?_
        | refine CV.skip ?_
        | refine ⟨_, ints_len (by assumption), ?_⟩
        | refine ⟨(⟨by omega, by omega⟩ : inI64 _), ?_⟩
        | (refine ⟨_, fS fe1 (by decide), ?_⟩)
        | (refine ⟨_, cell_load agGr hg0 rfl, ?_⟩)
        | (refine ⟨_, hgr.alen, ?_⟩)
        | (refine ⟨_, had, ?_⟩)
        | (refine ⟨_, hld, ?_⟩)
        | (refine ⟨fun _ => ?_, fun _ => ?_⟩ <;> first | (exfalso; omega) | skip)
        | fail
      refine ⟨(i + 1), (by repeat' first | exact trivial | refine ⟨rfl, ?_⟩ | refine ⟨slot_int (by (try simp only [Int.toNat_natCast]); omega), ?_⟩), (by (try dsimp only); omega), ?_⟩
      refine ⟨by omega, fun j hj => ?_, rfl⟩
      by_cases e : j = i
      · subst e; omega
      · exact hw j (by omega)
  obtain rfl : i = gs.length := by omega
  by_cases c1 : 20 < st.length
  · repeat' first
      | refine CO.cons rfl ?_
      | refine CO.nil ?_
      | refine CV.seq ?_
      | refine CV.region callees ?_
      | refine CV.cond ?_
      | refine CV.exit ?_
      | refine CV.ret ?_
      | refine CO.consG rfl ?_
      | refine ⟨_, ints_len (by assumption), ?_⟩
      | (refine ⟨_, fS fe1 (by decide), ?_⟩)
      | (refine ⟨_, cell_load agGr hg0 rfl, ?_⟩)
      | (refine ⟨_, hgr.alen, ?_⟩)
      | (refine ⟨_, fS fe0 (by decide), ?_⟩)
      | (refine ⟨fun _ => ?_, fun _ => ?_⟩ <;> first | (exfalso; omega) | skip)
      | fail
    exact ⟨rfl, .inl rfl, k0⟩
  by_cases c2 : 20 < gs.length
  · repeat' first
      | refine CO.cons rfl ?_
      | refine CO.nil ?_
      | refine CV.seq ?_
      | refine CV.region callees ?_
      | refine CV.cond ?_
      | refine CV.exit ?_
      | refine CV.ret ?_
      | refine CO.consG rfl ?_
      | refine ⟨_, ints_len (by assumption), ?_⟩
      | (refine ⟨_, fS fe1 (by decide), ?_⟩)
      | (refine ⟨_, cell_load agGr hg0 rfl, ?_⟩)
      | (refine ⟨_, hgr.alen, ?_⟩)
      | (refine ⟨_, fS fe0 (by decide), ?_⟩)
      | (refine ⟨fun _ => ?_, fun _ => ?_⟩ <;> first | (exfalso; omega) | skip)
      | fail
    exact ⟨rfl, .inl rfl, k0⟩
  repeat' first
    | refine CO.cons rfl ?_
    | refine CO.nil ?_
    | refine CV.seq ?_
    | refine CV.region callees ?_
    | refine CV.cond ?_
    | refine CV.exit ?_
    | refine CV.ret ?_
    | refine CO.consG rfl ?_
    | refine ⟨_, ints_len (by assumption), ?_⟩
    | (refine ⟨_, fS fe1 (by decide), ?_⟩)
    | (refine ⟨_, cell_load agGr hg0 rfl, ?_⟩)
    | (refine ⟨_, hgr.alen, ?_⟩)
    | (refine ⟨_, fS fe0 (by decide), ?_⟩)
    | (refine ⟨fun _ => ?_, fun _ => ?_⟩ <;> first | (exfalso; omega) | skip)
    | fail
  exact ⟨rfl, .inr ⟨rfl, by omega, by omega, hw⟩, k0⟩
end Go.Proofs.Ytjjmnfgnlcbfhaa
