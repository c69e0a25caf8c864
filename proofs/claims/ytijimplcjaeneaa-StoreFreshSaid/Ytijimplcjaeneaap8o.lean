
/- All partitions, by the reference; the plans that the law looks at. -/
import Derived.Test.Ytijimplcjaeneaap1o
import Derived.Test.Ytijimplcjaeneaag2o
set_option linter.unusedVariables false
set_option linter.unusedSimpArgs false
namespace Go.Proofs.Ytijimplcjaeneaa
open Go.AI
set_option maxRecDepth 100000 in
theorem refBlocks_spec [Orc] {B : Nat} {v : Value} {H : Heap} {xs : List Int} (hB : B ≤ H.n) (hv : Ints H v xs) (hb : ∀ i, i < xs.length → 0 ≤ xs[i]! ∧ xs[i]! < 9) (hn : xs.length < 1000000) :
    CallB Try.prog B 121 [v] H (fun r H' => r = VI (blkFrom xs 0) ∧ H' = H) := by
  refine CV.enter callees false (Orc.hv rfl rfl) Try.func121 rfl (by kernel_rfl) (Nat.le_of_ble_eq_true rfl) hB ?_ (Orc.hw rfl rfl)
  repeat' first
    | refine CO.cons rfl ?_
    | refine CO.nil ?_
    | refine CV.seq ?_
    | refine CV.region callees ?_
    | refine CV.block ?_
    | fail
  refine CV.loopc ?_
  refine WCv.rounds callees false (α := Int × Int) (fun (i, m) => [(0, v), (3, .int .i64 m), (4, .int .i64 i)]) (fun (i, m) Hz => Hz = H ∧ 0 ≤ i ∧ i ≤ xs.length ∧ 0 ≤ m ∧ m ≤ 9 ∧ blkFrom (xs.drop i.toNat) m = blkFrom xs 0) (fun (i, m) => xs.length - i.toNat) (0, 0) (by repeat' first | exact trivial | refine ⟨rfl, ?_⟩) ?_ ?_
  · exact ⟨rfl, by simp, by simp, by simp, by simp, by simp⟩
  rintro ⟨i, m⟩ Hx ⟨rfl, hi0, hi1, hm0, hm1, hc⟩ _
  by_cases hi : i < xs.length
  · have hx := hb i.toNat (by omega)
    rw [dr_at (l := xs) (i := i.toNat) (by omega), blkFrom] at hc
    repeat' first
      | refine CO.cons rfl ?_
      | refine CO.nil ?_
      | refine CV.seq ?_
      | refine CV.region callees ?_
      | refine CV.cond ?_
      | refine CV.block ?_
      | refine CV.skip ?_
      | refine ⟨_, ints_len (by assumption), ?_⟩
      | refine ⟨_, ints_addr (by assumption) (by omega) (by omega), ?_⟩
      | refine ⟨_, ints_load (by assumption) (by omega) (by omega), ?_⟩
      | refine ⟨(⟨by omega, by omega⟩ : inI64 _), ?_⟩
      | refine ⟨_, fun tm ha => step1_max rfl (ev_tmp ha rfl) (ev_tmp ha rfl), ?_⟩
      | (refine ⟨fun _ => ?_, fun _ => ?_⟩ <;> first | (exfalso; omega) | skip)
      | fail
    refine ⟨(i + 1, max m (xs[i.toNat]! + 1)), (by repeat' first | exact trivial | refine ⟨rfl, ?_⟩), (by (try dsimp only); omega), ?_⟩
    exact ⟨rfl, by omega, by omega, by omega, by omega, by rw [show (i + 1).toNat = i.toNat + 1 by omega]; exact hc⟩
  · rw [show xs.drop i.toNat = [] by simp; omega, blkFrom] at hc
    repeat' first
      | refine CO.cons rfl ?_
      | refine CO.nil ?_
      | refine CV.seq ?_
      | refine CV.region callees ?_
      | refine CV.cond ?_
      | refine CV.exit ?_
      | refine CV.ret ?_
      | refine ⟨_, ints_len (by assumption), ?_⟩
      | (refine ⟨fun _ => ?_, fun _ => ?_⟩ <;> first | (exfalso; omega) | skip)
      | fail
    exact ⟨rfl, by rw [hc], rfl⟩
set_option maxHeartbeats 1000000 in
set_option maxRecDepth 100000 in
theorem after_spec [Orc] {B : Nat} {v : Value} {H : Heap} {xs : List Int} (hB : B ≤ H.n) (hv : Ints H v xs) (hb : ∀ i, i < xs.length → 0 ≤ xs[i]! ∧ xs[i]! < 9) (h0 : 0 < xs.length) (hn : xs.length < 1000000) :
    CallB Try.prog B 134 [v] H (fun r H' => (∃ u, r = .tuple #[u, .bool (nxO xs).isSome] ∧ Own 3 H' u (((nxO xs).getD []).map VI) H.n) ∧ Keep H H') := by
  refine CV.enter callees false (Orc.hv rfl rfl) Try.func134 rfl (by kernel_rfl) (Nat.le_of_ble_eq_true rfl) hB ?_ (Orc.hw rfl rfl)
  repeat' first
    | refine CO.cons rfl ?_
    | refine CO.nil ?_
    | refine CV.seq ?_
    | refine CV.region callees ?_
    | refine CV.block ?_
    | refine ⟨_, ints_len (by assumption), ?_⟩
    | refine ⟨(⟨by omega, by omega⟩ : inI64 _), ?_⟩
    | fail
  refine CV.loopc ?_
  refine WCv.rounds callees false (α := Int) (fun j => [(0, v), (4, .int .i64 j)]) (fun j Hz => Hz = H ∧ 0 ≤ j ∧ j < xs.length ∧ nxF xs j.toNat = nxO xs) (fun j => j.toNat) ((xs.length : Int) - 1) (by repeat' first | exact trivial | refine ⟨rfl, ?_⟩) ?_ ?_
  · refine ⟨rfl, by omega, by omega, ?_⟩
    show nxF xs ((xs.length : Int) - 1).toNat = nxO xs
    rw [nxO, show ((xs.length : Int) - 1).toNat = xs.length - 1 by omega]
  rintro j Hx ⟨rfl, hj0, hj1, hM⟩ hBx
  by_cases hj : 0 < j
  · obtain ⟨q, hq⟩ : ∃ q, j.toNat = q + 1 := ⟨j.toNat - 1, by omega⟩
    have hx := hb j.toNat (by omega)
    have hlt : (xs.take j.toNat).length = j.toNat := by rw [List.length_take]; omega
    obtain ⟨t, ht1, ht2⟩ := row_slice (kd := .i64) (i := j) un22 sz3 hv hj0 (by simp; omega)
    rw [← List.map_take] at ht2
    have ht : Ints Hx t (xs.take j.toNat) := ht2
    repeat' first
      | refine CO.cons rfl ?_
      | refine CO.nil ?_
      | refine CV.seq ?_
      | refine CV.region callees ?_
      | refine CV.cond ?_
      | refine CV.block ?_
      | refine CV.skip ?_
      | refine CV.draw callees (by decide +kernel) ?_
      | refine CH.cons rfl ?_
      | refine ⟨_, ints_addr (by assumption) (by omega) (by omega), ?_⟩
      | refine ⟨_, ints_load (by assumption) (by omega) (by omega), ?_⟩
      | refine ⟨_, ht1, ?_⟩
      | (refine ⟨fun _ => ?_, fun _ => ?_⟩ <;> first | (exfalso; omega) | skip)
      | fail
    refine (refBlocks_spec (Nat.le_refl _) ht (take_bound hb _) (by omega)).mono ?_
    rintro r H2 ⟨rfl, rfl⟩
    repeat' first
      | refine CO.cons rfl ?_
      | refine CO.nil ?_
      | refine CV.seq ?_
      | refine CV.region callees ?_
      | refine CV.cond ?_
      | refine CV.skip ?_
      | refine CH.cons rfl ?_
      | refine CH.nil ?_
      | refine ⟨(rfl : plain _ = true), ?_⟩
      | refine ⟨(⟨by omega, by omega⟩ : inI64 _), ?_⟩
      | (refine ⟨fun _ => ?_, fun _ => ?_⟩ <;> first | (exfalso; omega) | skip)
      | fail
    · have hN : nxO xs = some (xs.take j.toNat ++ (xs[j.toNat]! + 1) :: List.replicate (xs.length - (j.toNat + 1)) 0) := by
        rw [← hM, hq, nxF, if_pos (by rw [← hq]; omega)]
      rw [hN]
      refine ⟨_, _, build_none un22 one3, ?_⟩
      repeat' first
        | refine CO.cons rfl ?_
        | refine ⟨_, ht1, ?_⟩
        | fail
      refine copy_ask un22 one3 (by omega) ht2 hBx (by rw [List.length_map, hlt]; omega) ?_
      intro o H3 ho k3
      have hv3 : Ints H3 v xs := Row.keep hv k3
      repeat' first
        | refine CO.cons rfl ?_
        | refine CO.nil ?_
        | refine CV.seq ?_
        | refine CV.region callees ?_
        | refine ⟨_, ints_addr (by assumption) (by omega) (by omega), ?_⟩
        | refine ⟨_, ints_load (by assumption) (by omega) (by omega), ?_⟩
        | refine ⟨(⟨by omega, by omega⟩ : inI64 _), ?_⟩
        | refine ⟨_, _, build_one un22 one3 rfl, ?_⟩
        | fail
      refine push_ask ho k3.1 hBx (by omega) ?_
      intro o4 H4 ho4 kb4 hf4
      have k4 := kb4.keep k3 (fun z hz => (ho.lt hz).1)
      repeat' first
        | refine CO.cons rfl ?_
        | refine CO.nil ?_
        | refine CV.seq ?_
        | refine CV.block ?_
        | fail
      refine CV.loopc ?_
      refine WCv.rounds callees false (α := Value × Nat) (fun (o, i) => [(0, v), (5, o)]) (fun (o, i) Hz => j.toNat + 1 + i ≤ xs.length ∧ Own 3 Hz o (((xs.take j.toNat ++ [xs[j.toNat]! + 1]) ++ List.replicate i 0).map VI) H2.n ∧ Keep H2 Hz) (fun (o, i) => xs.length - i) (o4, 0) (by repeat' first | exact trivial | refine ⟨rfl, ?_⟩) ?_ ?_
      · exact ⟨by omega, by simpa using ho4, k4⟩
      rintro ⟨o, i⟩ Hy ⟨hi, hoy, hky⟩ hBy
      have hvy : Ints Hy v xs := Row.keep hv hky
      have hoi : Ints Hy o ((xs.take j.toNat ++ [xs[j.toNat]! + 1]) ++ List.replicate i 0) := hoy.row
      have hlo : ((xs.take j.toNat ++ [xs[j.toNat]! + 1]) ++ List.replicate i (0 : Int)).length = j.toNat + 1 + i := by simp; omega
      repeat' first
        | refine CO.cons rfl ?_
        | refine CO.nil ?_
        | refine CV.seq ?_
        | refine CV.region callees ?_
        | refine CV.cond ?_
        | refine CV.block ?_
        | refine CV.skip ?_
        | refine CV.exit ?_
        | refine CV.ret ?_
        | refine ⟨_, ints_len (by assumption), ?_⟩
        | refine ⟨_, _, build_one un22 one3 rfl, ?_⟩
        | (refine ⟨fun _ => ?_, fun _ => ?_⟩ <;> first | (exfalso; omega) | skip)
        | fail
      · refine push_ask hoy hky.1 hBx (by omega) ?_
        intro o5 H5 ho5 kb5 hf5
        repeat' first
          | refine CO.cons rfl ?_
          | refine CO.nil ?_
          | fail
        refine ⟨(o5, i + 1), (by repeat' first | exact trivial | refine ⟨rfl, ?_⟩), (by (try dsimp only); omega), ?_⟩
        refine ⟨by omega, ?_, kb5.keep hky (fun z hz => (hoy.lt hz).1)⟩
        rw [List.append_assoc (xs.take j.toNat ++ [xs[j.toNat]! + 1])] at ho5
        rw [List.replicate_succ']
        exact ho5
      · have e : xs.length - (j.toNat + 1) = i := by omega
        rw [e]
        refine ⟨by simp only [List.all_cons, List.all_nil, hoy.notTuple]; rfl, ⟨o, rfl, ?_⟩, hky⟩
        rw [List.append_assoc] at hoy
        exact hoy
    · refine ⟨(j - 1), (by repeat' first | exact trivial | refine ⟨rfl, ?_⟩), (by (try dsimp only); omega), ?_⟩
      refine ⟨rfl, by omega, by omega, ?_⟩
      rw [← hM, hq, nxF, if_neg (by rw [← hq]; omega), show (j - 1).toNat = q by omega]
  · have h00 : j.toNat = 0 := by omega
    have hN : nxO xs = none := by rw [← hM, h00]; rfl
    rw [hN]
    repeat' first
      | refine CO.cons rfl ?_
      | refine CO.nil ?_
      | refine CV.seq ?_
      | refine CV.region callees ?_
      | refine CV.cond ?_
      | refine CV.exit ?_
      | refine CV.ret ?_
      | (refine ⟨fun _ => ?_, fun _ => ?_⟩ <;> first | (exfalso; omega) | skip)
      | fail
    exact ⟨rfl, ⟨_, rfl, .inl ⟨rfl, rfl⟩⟩, Keep.refl _⟩
theorem makeN {H : Heap} {n : Nat} (h : n ≤ 100) : amakeSlice Try.prog H 29 (VI n) (VI n) = some (.slice (some ⟨H.n, 0, none⟩) n 0, H.new (.cells ((List.replicate n (0 : Int)).map VI) 3 2), H.n) := by
  have := make_row (H := H) un22 one3 (by decide) n (by omega)
  rw [this]
  simp
set_option maxHeartbeats 16000000 in
set_option maxRecDepth 100000 in
theorem all_spec [Orc] {B n : Nat} {H : Heap} (hB : B ≤ H.n) (h1 : 1 ≤ n) (h6 : n ≤ 6) :
    CallB Try.prog B 120 [VI n] H (fun r H' => (∃ ws, Gri H' r ws (allL n) ∧ ∀ j, j < ws.length → oneC ws[j]! = true) ∧ Keep H H') := by
  have hP := allP h1 h6
  have hL := hP.n
  have hz := hP.zero
  have hpos : 0 < (allL n).length := by
    cases hl : allL n with
    | nil => rw [hl] at hz; cases hz
    | cons a t => simp
  refine CV.enter callees false (Orc.hv rfl rfl) Try.func120 rfl (by kernel_rfl) (Nat.le_of_ble_eq_true rfl) hB ?_ (Orc.hw rfl rfl)
  repeat' first
    | refine CO.cons rfl ?_
    | refine CO.nil ?_
    | refine CV.seq ?_
    | refine CV.region callees ?_
    | refine CV.block ?_
    | (refine ⟨_, _, makeN (by omega), ?_⟩)
    | fail
  generalize hs0 : Heap.new H _ = H0
  have hg0 := new_get hs0
  have k0 := new_keep hs0
  have n0 := new_n hs0
  obtain ⟨b0, hbn0⟩ : ∃ b, Heap.n H = b := ⟨_, rfl⟩
  rw [hbn0] at hg0 n0 ⊢
  have hp0 : Own 3 H0 (.slice (some ⟨b0, 0, none⟩) n 0) ((List.replicate n (0 : Int)).map VI) b0 := .inr ⟨b0, by simp, by omega, by omega, hg0⟩
  repeat' first
    | fail
  refine CV.loopc ?_
  refine WCv.rounds callees false (α := Nat × Value × Value × List Value × Bool) (fun (k, p, q, ws, x) => [(3, p), (4, q), (5, .bool x)]) (fun (k, p, q, ws, x) Hz => k ≤ (allL n).length ∧ x = decide (k < (allL n).length) ∧ Own 3 Hz p (((allL n)[k]?.getD []).map VI) b0 ∧ (∀ c, blkOf p = some c → blkOf q ≠ some c) ∧ Own 29 Hz q ws b0 ∧ ws.length = k ∧ (∀ j, j < k → Own 3 Hz ws[j]! ((allL n)[j]!.map VI) b0 ∧ (∀ c, blkOf ws[j]! = some c → blkOf q ≠ some c)) ∧ Keep H Hz) (fun (k, p, q, ws, x) => (allL n).length - k) (0, .slice (some ⟨b0, 0, none⟩) n 0, nilS, [], true) (by repeat' first | exact trivial | refine ⟨rfl, ?_⟩ | refine ⟨slot_int (by (try simp only [Int.toNat_natCast]); omega), ?_⟩) ?_ ?_
  · exact ⟨by omega, (decide_eq_true hpos).symm, by rw [hz]; exact hp0, (fun c _ h => (by cases h)), .inl ⟨rfl, rfl⟩, rfl, fun j h => by omega, k0⟩
  rintro ⟨k, p, q, ws, x⟩ Hx ⟨hk, rfl, hp, hpq, hq, hwl, hws, kx⟩ hBx
  have lx := kx.1
  by_cases hk2 : k < (allL n).length
  · rw [decide_eq_true hk2]
    have hgk : (allL n)[k]?.getD [] = (allL n)[k]! := by rw [List.getElem?_eq_getElem hk2, getElem!_pos _ k hk2]; rfl
    rw [hgk] at hp
    have hlen := hP.len k hk2
    have hbd := hP.bd k hk2
    have hnx := hP.next k hk2
    have hqa : ∀ c, blkOf q = some c → b0 ≤ c ∧ c < Hx.n := fun c hc => hq.lt hc
    have hpa : ∀ c, blkOf p = some c → b0 ≤ c ∧ c < Hx.n := fun c hc => hp.lt hc
    obtain ⟨xs, hxs⟩ : ∃ xs, (allL n)[k]! = xs := ⟨_, rfl⟩
    rw [hxs] at hp hlen hbd hnx
    repeat' first
      | refine CO.cons rfl ?_
      | refine CO.nil ?_
      | refine CV.seq ?_
      | refine CV.region callees ?_
      | refine CV.cond ?_
      | refine CV.block ?_
      | refine CV.skip ?_
      | (refine ⟨_, _, build_one unG oneN (Row.oneC hp.row).1, ?_⟩)
      | fail
    refine append_askW unG oneN (by omega) hq (by omega) (by omega) (by omega) ?_
    intro q9 H9 hq9 kb9 hf9
    have l9 := kb9.le
    have hp9 : Own 3 H9 p (xs.map VI) b0 := own_keepF hp l9 fun c hc => kb9.get c (hpa c hc).2 (hpq c hc)
    repeat' first
      | refine CO.cons rfl ?_
      | refine CO.nil ?_
      | refine CV.region callees ?_
      | fail
    refine (after_spec (by omega) hp9.row hbd (by omega) (by omega)).mono ?_
    rintro v HA ⟨⟨u, rfl, hu⟩, kA⟩
    have lA := kA.1
    have hsome : (nxO xs).isSome = decide (k + 1 < (allL n).length) := by
      rw [hnx]
      by_cases h : k + 1 < (allL n).length
      · rw [List.getElem?_eq_getElem h, decide_eq_true h]; rfl
      · rw [List.getElem?_eq_none (by omega), decide_eq_false h]; rfl
    rw [hsome]
    repeat' first
      | refine CO.cons rfl ?_
      | refine CO.nil ?_
      | fail
    refine ⟨(k + 1, u, q9, ws ++ [p], decide (k + 1 < (allL n).length)), (by repeat' first | exact trivial | refine ⟨rfl, ?_⟩ | refine ⟨slot_int (by (try simp only [Int.toNat_natCast]); omega), ?_⟩), (by (try dsimp only); omega), ?_⟩
    refine ⟨by omega, rfl, by rw [← hnx]; exact Own.lower hu (by omega), fun c hc h => ?_, hq9.keep kA, by simp [hwl], fun j hj => ?_, kb9.keep kx (fun c hc => by have := hqa c hc; omega) |>.trans kA⟩
    · have := (hu.lt hc).1
      have := (hq9.lt h).2
      omega
    · by_cases hj2 : j < k
      · have hnd : (ws ++ [p])[j]! = ws[j]! := by
          rw [getElem!_pos _ j (by rw [List.length_append]; omega), List.getElem_append_left (by omega), getElem!_pos ws j (by omega)]
        rw [hnd]
        obtain ⟨g1, g2⟩ := hws j hj2
        refine ⟨(own_keepF g1 l9 fun c hc => kb9.get c (g1.lt hc).2 (g2 c hc)).keep kA, fun c hc h => ?_⟩
        have := hf9 c h
        have := (g1.lt hc).2
        omega
      · obtain rfl : j = k := by omega
        have hnd : (ws ++ [p])[j]! = p := by
          rw [getElem!_pos _ j (by rw [List.length_append, List.length_singleton]; omega), List.getElem_append_right (by omega)]
          simp
        rw [hnd, hxs]
        refine ⟨hp9.keep kA, fun c hc h => ?_⟩
        have := hf9 c h
        have := (hpa c hc).2
        omega
  obtain rfl : k = (allL n).length := by omega
  rw [decide_eq_false hk2]
  repeat' first
    | refine CO.cons rfl ?_
    | refine CO.nil ?_
    | refine CV.seq ?_
    | refine CV.region callees ?_
    | refine CV.cond ?_
    | refine CV.exit ?_
    | refine CV.ret ?_
    | fail
  exact ⟨by simp only [List.all_cons, List.all_nil, hq.notTuple]; rfl, ⟨ws, ⟨hq.row, hwl, fun j hj => (hws j hj).1.row⟩, fun j hj => (Row.oneC (hws j (by omega)).1.row).1⟩, kx⟩
theorem snoc_last {α : Type} [Inhabited α] {l : List α} {x : α} {n : Nat} (h : n = l.length) : (l ++ [x])[n]! = x := by
  subst h
  rw [getElem!_pos _ _ (by simp), List.getElem_append_right (Nat.le_refl _)]
  simp
theorem filt_snoc {L : List (List Int)} {K i : Nat} (h : i < L.length) : (L.take (i + 1)).filter (fun q => decide (tak q ≤ K)) = (L.take i).filter (fun q => decide (tak q ≤ K)) ++ if tak L[i]! ≤ K then [L[i]!] else [] := by
  rw [tk_at h, List.filter_append]
  congr 1
  by_cases c : tak L[i]! ≤ K
  · rw [if_pos c, List.filter_cons_of_pos (by simpa using c), List.filter_nil]
  · rw [if_neg c, List.filter_cons_of_neg (by simpa using c), List.filter_nil]
set_option maxHeartbeats 16000000 in
set_option maxRecDepth 100000 in
theorem plansL_spec [Orc] {B n K : Nat} {H : Heap} {s g : Value} {st : List Int} (hB : B ≤ H.n) (hs : Ints H s st) (hok : SoOk st) (hK : combos st = (K : Int)) (h6 : n ≤ 6) :
    CallB Try.prog B 70 [Sev s g, VI n] H (fun r H' => (∃ ws, Gri H' r ws (genK K n [])) ∧ Keep H H') := by
  have hKb := hok.all
  refine CV.enter callees false (Orc.hv rfl rfl) Try.func70 rfl (by kernel_rfl) (Nat.le_of_ble_eq_true rfl) hB ?_ (Orc.hw rfl rfl)
  repeat' first
    | refine CO.cons rfl ?_
    | refine CV.seq ?_
    | refine CV.region callees ?_
    | fail
  refine ⟨(by simp only [notTuple]), ?_⟩
  rw [boxSe]
  generalize hs0 : Heap.new H _ = H0
  have hg0 := new_get hs0
  have k0 := new_keep hs0
  have n0 := new_n hs0
  obtain ⟨b0, hbn0⟩ : ∃ b, Heap.n H = b := ⟨_, rfl⟩
  rw [hbn0] at hg0 n0 ⊢
  have hs0 : Ints H0 s st := hs.keep k0
  have l0 := k0.1
  by_cases hn : n = 0
  · subst hn
    repeat' first
      | refine CO.cons rfl ?_
      | refine CO.nil ?_
      | refine CV.seq ?_
      | refine CV.region callees ?_
      | refine CV.cond ?_
      | refine CV.ret ?_
      | (refine ⟨_, _, build_one unG oneN rfl, ?_⟩)
      | (refine ⟨fun _ => ?_, fun _ => ?_⟩ <;> first | (exfalso; omega) | skip)
      | fail
    generalize hs1 : Heap.new H0 _ = H1
    have hg1 := new_get hs1
    have k1 := new_keep hs1
    have n1 := new_n hs1
    obtain ⟨b1, hbn1⟩ : ∃ b, Heap.n H0 = b := ⟨_, rfl⟩
    rw [hbn1] at hg1 n1 ⊢
    exact ⟨rfl, ⟨[nilS], ⟨.inr (.inr ⟨b1, 0, 0, [nilS], 29, 2, rfl, by omega, hg1, by decide, by simp, fun j w hj => by simpa using hj⟩), rfl, fun i hi => by
      have hi0 : i = 0 := by simp [genK] at hi; exact hi
      subst hi0
      exact .inl ⟨rfl, rfl⟩⟩⟩, k0.trans k1⟩
  have hP := allP (n := n) (by omega) h6
  have hL := hP.n
  repeat' first
    | refine CO.cons rfl ?_
    | refine CO.nil ?_
    | refine CV.seq ?_
    | refine CV.region callees ?_
    | refine CV.cond ?_
    | refine CV.skip ?_
    | (refine ⟨fun _ => ?_, fun _ => ?_⟩ <;> first | (exfalso; omega) | skip)
    | fail
  refine (all_spec (by omega) (by omega) h6).mono ?_
  rintro lv H1 ⟨⟨lw, hlw, hlo⟩, k1⟩
  have l1 := k1.1
  have hS1 := (k1.2 b0 (by omega)).trans hg0
  have hs1 : Ints H1 s st := hs0.keep k1
  repeat' first
    | refine CO.cons rfl ?_
    | refine CO.nil ?_
    | refine CV.seq ?_
    | refine CV.region callees ?_
    | refine CV.block ?_
    | fail
  refine CV.loopc ?_
  refine WCv.rounds callees false (α := Nat × Value × List Value) (fun (i, q, ws) => [(2, .pointer (some ⟨b0, 0, none⟩)), (5, q), (6, lv), (7, VI i)]) (fun (i, q, ws) Hz => i ≤ (allL n).length ∧ Own 29 Hz q ws H1.n ∧ ws.length = (((allL n).take i).filter (fun q => decide (tak q ≤ K))).length ∧ (∀ j, j < ws.length → Ints H1 ws[j]! ((((allL n).take i).filter (fun q => decide (tak q ≤ K)))[j]!)) ∧ Keep H1 Hz) (fun (i, q, ws) => (allL n).length - i) (0, nilS, []) (by repeat' first | exact trivial | refine ⟨rfl, ?_⟩ | refine ⟨slot_int (by (try simp only [Int.toNat_natCast]); omega), ?_⟩) ?_ ?_
  · exact ⟨by omega, .inl ⟨rfl, rfl⟩, rfl, fun j h => by simp at h, Keep.refl _⟩
  rintro ⟨i, q, ws⟩ Hx ⟨hi, hq, hwl, hws, kx⟩ hBx
  have lx := kx.1
  have hlx := hlw.keep kx
  have hSx := (kx.2 b0 (by omega)).trans hS1
  have hsx : Ints Hx s st := hs1.keep kx
  have hfl : (((allL n).take i).filter (fun q => decide (tak q ≤ K))).length ≤ i := Nat.le_trans (List.length_filter_le _ _) (by rw [List.length_take]; omega)
  by_cases hi2 : i < (allL n).length
  · have had := hlx.addr hi2
    have hld := hlx.load hi2
    have hbd := hP.bd i hi2
    have hlen := hP.len i hi2
    have hmem : ∀ x ∈ (allL n)[i]!, 0 ≤ x := fun x hx => by
      obtain ⟨j, hj, rfl⟩ := List.getElem_of_mem hx
      have := hbd j hj
      rw [getElem!_pos _ j hj] at this
      exact this.1
    have htk : blkFrom (allL n)[i]! 0 = (tak (allL n)[i]! : Nat) := blk_tak (m := 0) hmem
    have hsn := filt_snoc (L := allL n) (K := K) (i := i) hi2
    have hoc : oneC lw[i]! = true := hlo i (by rw [hlw.len]; exact hi2)
    repeat' first
      | refine CO.cons rfl ?_
      | refine CO.nil ?_
      | refine CV.seq ?_
      | refine CV.region callees ?_
      | refine CV.cond ?_
      | refine CV.block ?_
      | refine CV.skip ?_
      | refine CR.cons (es := []) ?_
      | (refine ⟨_, hlx.alen, ?_⟩)
      | refine CV.wideR callees (by decide +kernel) [(0, []), (1, []), (2, []), (3, []), (5, []), (4, [5]), (6, []), (7, [])] (by kernel_rfl) ?_
      | (refine ⟨_, had, ?_⟩)
      | (refine ⟨_, hld, ?_⟩)
      | (refine ⟨_, ldSe hSx, ?_⟩)
      | (refine ⟨fun _ => ?_, fun _ => ?_⟩ <;> first | (exfalso; omega) | skip)
      | fail
    refine CR.call ?_
    refine (refBlocks_spec (Nat.le_refl _) (hlx.ints i hi2) hbd (by omega)).mono ?_
    rw [htk]
    rintro v H2 ⟨rfl, rfl⟩
    repeat' first
      | refine CR.cons (es := []) ?_
      | fail
    refine (combosR_spec (by omega) hsx hok).mono ?_
    rw [hK]
    rintro v H3 ⟨rfl, k3⟩
    have l3 := k3.1
    have hlx3 := hlx.keep k3
    have had3 := hlx3.addr hi2
    have hld3 := hlx3.load hi2
    have hq3 := hq.keep k3
    by_cases hc : tak (allL n)[i]! ≤ K
    · rw [if_pos hc] at hsn
      repeat' first
        | refine CO.cons rfl ?_
        | refine CV.region callees ?_
        | refine CV.cond ?_
        | refine CR.cons ?_
        | refine CR.nil ?_
        | (refine ⟨_, had3, ?_⟩)
        | (refine ⟨_, hld3, ?_⟩)
        | (refine ⟨_, _, build_one unG oneN hoc, ?_⟩)
        | (refine ⟨fun _ => ?_, fun _ => ?_⟩ <;> first | (exfalso; omega) | skip)
        | fail
      refine append_askW unG oneN (by omega) hq3 (by omega) (by omega) (by omega) ?_
      intro q9 H9 hq9 kb9 hf9
      have l9 := kb9.le
      repeat' first
        | refine CO.cons rfl ?_
        | refine CO.nil ?_
        | refine CV.region callees ?_
        | refine ⟨(⟨by omega, by omega⟩ : inI64 _), ?_⟩
        | fail
      refine ⟨(i + 1, q9, ws ++ [lw[i]!]), (by repeat' first | exact trivial | refine ⟨rfl, ?_⟩ | refine ⟨slot_int (by (try simp only [Int.toNat_natCast]); omega), ?_⟩), (by (try dsimp only); omega), ?_⟩
      refine ⟨by omega, hq9, by rw [hsn]; simp [hwl], fun j hj => ?_, kb9.keep (kx.trans k3) fun c hc => (hq3.lt hc).1⟩
      rw [hsn]
      by_cases hj2 : j < ws.length
      · have := hws j hj2
        rw [getElem!_pos _ j (by rw [List.length_append]; omega), List.getElem_append_left hj2, getElem!_pos _ j (by rw [List.length_append]; omega), List.getElem_append_left (by omega)]
        rwa [getElem!_pos _ j hj2, getElem!_pos _ j (by omega)] at this
      · rw [List.length_append, List.length_singleton] at hj
        obtain rfl : j = ws.length := by omega
        rw [snoc_last rfl, snoc_last hwl]
        exact hlw.ints i hi2
    · rw [if_neg hc, List.append_nil] at hsn
      repeat' first
        | refine CO.cons rfl ?_
        | refine CO.nil ?_
        | refine CV.region callees ?_
        | refine CV.cond ?_
        | refine CV.skip ?_
        | refine CR.cons ?_
        | refine CR.nil ?_
        | refine ⟨(⟨by omega, by omega⟩ : inI64 _), ?_⟩
        | (refine ⟨fun _ => ?_, fun _ => ?_⟩ <;> first | (exfalso; omega) | skip)
        | fail
      refine ⟨(i + 1, q, ws), (by repeat' first | exact trivial | refine ⟨rfl, ?_⟩ | refine ⟨slot_int (by (try simp only [Int.toNat_natCast]); omega), ?_⟩), (by (try dsimp only); omega), ?_⟩
      exact ⟨by omega, hq3, by rw [hsn]; exact hwl, fun j hj => by rw [hsn]; exact hws j hj, kx.trans k3⟩
  obtain rfl : i = (allL n).length := by omega
  rw [List.take_length, all_filter] at hwl hws
  repeat' first
    | refine CO.cons rfl ?_
    | refine CO.nil ?_
    | refine CV.seq ?_
    | refine CV.region callees ?_
    | refine CV.cond ?_
    | refine CV.exit ?_
    | refine CV.ret ?_
    | (refine ⟨_, hlx.alen, ?_⟩)
    | (refine ⟨fun _ => ?_, fun _ => ?_⟩ <;> first | (exfalso; omega) | skip)
    | fail
  exact ⟨by simp only [List.all_cons, List.all_nil, hq.notTuple]; rfl, ⟨ws, hq.row, hwl, fun j hj => Row.keep (hws j (by omega)) kx⟩, (k0.trans k1).trans kx⟩
end Go.Proofs.Ytijimplcjaeneaa
