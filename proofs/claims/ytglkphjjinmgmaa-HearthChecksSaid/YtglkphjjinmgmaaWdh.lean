
/- Heats added. -/
import Derived.Test.YtglkphjjinmgmaaWch
set_option linter.unusedVariables false
set_option linter.unusedSimpArgs false
namespace Go.Proofs.Ytglkphjjinmgmaa
open Go.AI
theorem un112 : Try.prog.underlying 133 = some (.slice 104) := by kernel_rfl
theorem zero87b : zeroBB Try.prog 104 = some (Hl (0, 0), 16) := by kernel_rfl
theorem kn_len {H : Heap} {v : Value} {l : List (Int × Int)} (h : RowS 2 H v (l.map Hl)) : alen Try.prog H 133 v = some (.int .i64 l.length) := by
  have := h.alen un112; rwa [List.length_map] at this
theorem kn_addr {H : Heap} {v : Value} {l : List (Int × Int)} (h : RowS 2 H v (l.map Hl)) {n : Int} (h0 : 0 ≤ n) (h1 : n < l.length) : aindexAddr Try.prog 133 v (.int .i64 n) = some (elemS v 2 n.toNat) := h.addr un112 sz87 h0 (by rw [List.length_map]; exact h1)
theorem kn_load {H : Heap} {v : Value} {l : List (Int × Int)} (h : RowS 2 H v (l.map Hl)) {j : Nat} (hj : j < l.length) : aload Try.prog 104 H (elemS v 2 j) = some (Hv l[j]!) := h.load ag87 sz87 (hl_at hj)
abbrev OwnK (H : Heap) (v : Value) (l : List (Int × Int)) (B : Nat) : Prop := OwnS 104 2 H v (l.map Hl) B
theorem kn_put {H : Heap} {K : Heap → Prop} {B B0 : Nat} {x : Value} {l : List (Int × Int)} {j : Nat} {d : Int × Int} (hx : OwnK H x l B0) (hB : B ≤ B0) (hj : j < l.length)
    (hk : ∀ H', OwnK H' x (l.set j d) B0 → KeepBut x H H' → K H') :
    ∃ H' b, astore Try.prog 104 H (Hv d) (elemS x 2 j) = some (H', b) ∧ B ≤ b ∧ K H' :=
  rstore_askS (row := Hl d) sz87 hx hB (by rw [List.length_map]; exact hj) rfl rfl fun H' h1 h2 => hk H' (by rw [OwnK, List.map_set]; exact h1) h2
def sumA (l : List (Int × Int)) : Int := sumI (l.map (·.1))
def sumB (l : List (Int × Int)) : Int := sumI (l.map (·.2))
theorem sumI_app : ∀ {l : List Int} {x : Int}, sumI (l ++ [x]) = sumI l + x
  | [], x => by simp [sumI]
  | y :: l, x => by simp only [List.cons_append, sumI, sumI_app]; omega
theorem sumI_take {l : List Int} {i : Nat} (h : i < l.length) : sumI (l.take (i + 1)) = sumI (l.take i) + l[i]! := by
  rw [List.take_succ_eq_append_getElem h, sumI_app, getElem!_pos l i h]
theorem sumI_bd {c : Int} (hc : 0 ≤ c) : ∀ {l : List Int} {i : Nat}, (∀ j : Nat, j < l.length → 0 ≤ l[j]! ∧ l[j]! ≤ c) → i ≤ l.length → 0 ≤ sumI (l.take i) ∧ sumI (l.take i) ≤ c * i
  | l, 0, _, _ => by simp [sumI]
  | l, i + 1, h, hi => by
    have ih := sumI_bd hc (i := i) h (by omega)
    have h1 := h i (by omega)
    rw [sumI_take (by omega)]
    have : c * ((i + 1 : Nat) : Int) = c * i + c := by rw [Int.natCast_add, Int.mul_add]; simp
    omega
theorem map_at1 {l : List (Int × Int)} {i : Nat} (h : i < l.length) : (l.map (·.1))[i]! = l[i]!.1 := by
  rw [getElem!_pos _ i (by simpa using h), getElem!_pos l i h]; simp
theorem map_at2 {l : List (Int × Int)} {i : Nat} (h : i < l.length) : (l.map (·.2))[i]! = l[i]!.2 := by
  rw [getElem!_pos _ i (by simpa using h), getElem!_pos l i h]; simp
set_option maxHeartbeats 4000000 in
set_option maxRecDepth 100000 in
theorem added_spec {B : Nat} {H : Heap} {v : Value} {l : List (Int × Int)} (hB : B ≤ H.n) (hv : RowS 2 H v (l.map Hl)) (hn : l.length ≤ 12) (hb : ∀ i, i < l.length → (0 ≤ l[i]!.1 ∧ l[i]!.1 ≤ 1000) ∧ 0 ≤ l[i]!.2 ∧ l[i]!.2 ≤ 1000) :
    CallB Try.prog B 96 [v] H (fun r H' => r = Hv (sumA l, sumB l) ∧ Keep H H') := by
  have hb1 : ∀ j : Nat, j < (l.map (·.1)).length → 0 ≤ (l.map (·.1))[j]! ∧ (l.map (·.1))[j]! ≤ 1000 := fun j hj => by
    rw [List.length_map] at hj; rw [map_at1 hj]; exact (hb j hj).1
  have hb2 : ∀ j : Nat, j < (l.map (·.2)).length → 0 ≤ (l.map (·.2))[j]! ∧ (l.map (·.2))[j]! ≤ 1000 := fun j hj => by
    rw [List.length_map] at hj; rw [map_at2 hj]; exact (hb j hj).2
  refine CV.enter callees false rfl Try.func96 rfl (by kernel_rfl) (Nat.le_of_ble_eq_true rfl) hB ?_
  repeat' first
    | refine CO.cons rfl ?_
    | refine CO.nil ?_
    | refine CV.seq ?_
    | refine CV.region callees ?_
    | (refine ⟨_, _, al87, ?_⟩)
    | fail
  generalize hs0 : Heap.new H _ = H0
  have hg0 := new_get hs0
  have k0 := new_keep hs0
  have n0 := new_n hs0
  obtain ⟨b0, hbn0⟩ : ∃ b, Heap.n H = b := ⟨_, rfl⟩
  rw [hbn0] at hg0 n0 ⊢
  repeat' first
    | fail
  generalize hs1 : Heap.new H0 _ = H1
  have hg1 := new_get hs1
  have k1 := new_keep hs1
  have n1 := new_n hs1
  obtain ⟨b1, hbn1⟩ : ∃ b, Heap.n H0 = b := ⟨_, rfl⟩
  rw [hbn1] at hg1 n1 ⊢
  have k01 := k0.trans k1
  have hr1 := (k1.2 b0 (by omega)).trans hg0
  have hv1 := hv.keep k01
  repeat' first
    | refine CO.cons rfl ?_
    | refine CO.nil ?_
    | refine CV.block ?_
    | (refine ⟨_, kn_len hv1, ?_⟩)
    | fail
  refine CV.loopc ?_
  refine WCv.rounds callees false (α := Nat) (fun i => [(2, .pointer (some ⟨b0, 0, none⟩)), (3, .pointer (some ⟨b1, 0, none⟩)), (6, v), (7, VJ l.length), (8, VJ i)]) (fun i Hz => i ≤ l.length ∧ Hz.get b0 = some (.cells (Hl (0, 0)) 104 1) ∧ Hz.get b1 = some (.cells (Hl (sumI ((l.map (·.1)).take i), sumI ((l.map (·.2)).take i))) 104 1) ∧ Keep H Hz ∧ b1 < Hz.n) (fun i => l.length - i) (0) (by repeat' first | exact trivial | refine ⟨rfl, ?_⟩ | refine ⟨slot_int (by (try simp only [Int.toNat_natCast]); omega), ?_⟩) ?_ ?_
  · exact ⟨by omega, hr1, hg1, k01, by omega⟩
  rintro i Hx ⟨hi, hrx, hgx, kx, lx⟩ hBx
  by_cases hi2 : i < l.length
  · have hvx := hv.keep kx
    have s1 := sumI_bd (c := 1000) (by decide) (i := i) hb1 (by rw [List.length_map]; omega)
    have s2 := sumI_bd (c := 1000) (by decide) (i := i) hb2 (by rw [List.length_map]; omega)
    have hbi := hb i hi2
    have e1 := sumI_take (l := l.map (·.1)) (i := i) (by rw [List.length_map]; exact hi2)
    have e2 := sumI_take (l := l.map (·.2)) (i := i) (by rw [List.length_map]; exact hi2)
    rw [map_at1 hi2] at e1
    rw [map_at2 hi2] at e2
    repeat' first
      | refine CO.cons rfl ?_
      | refine CO.nil ?_
      | refine CV.seq ?_
      | refine CV.region callees ?_
      | refine CV.cond ?_
      | refine CV.block ?_
      | refine CV.skip ?_
      | (refine ⟨_, kn_addr hvx (by omega) (by omega), ?_⟩)
      | (refine ⟨_, kn_load hvx hi2, ?_⟩)
      | (refine ⟨_, _, al87, ?_⟩)
      | (refine ⟨fun _ => ?_, fun _ => ?_⟩ <;> first | (exfalso; omega) | skip)
      | fail
    generalize hs2 : Heap.new Hx _ = H2
    have hg2 := new_get hs2
    have k2 := new_keep hs2
    have n2 := new_n hs2
    obtain ⟨b2, hbn2⟩ : ∃ b, Heap.n Hx = b := ⟨_, rfl⟩
    rw [hbn2] at hg2 n2 ⊢
    repeat' first
      | fail
    refine ⟨_, _, st87 hg2, by omega, ?_⟩
    generalize hs3 : Heap.set H2 b2 _ = H3
    have hg3 : H3.get b2 = some (.cells (Hl l[i]!) 104 1) := set_get hs3
    have n3 := set_n hs3
    have o3 := set_old hs3
    have k3 : Keep Hx H3 := keep_put k2 (by omega) o3 n3
    have hg31 := (k3.2 b1 (by omega)).trans hgx
    repeat' first
      | refine CO.cons rfl ?_
      | refine CO.nil ?_
      | refine CV.seq ?_
      | refine CV.region callees ?_
      | refine ⟨(⟨by omega, by omega⟩ : inI64 _), ?_⟩
      | (refine ⟨_, addrK (by decide) (by decide), ?_⟩)
      | (refine ⟨_, cell_load ag3 hg31 rfl, ?_⟩)
      | (refine ⟨_, cell_load ag3 hg3 rfl, ?_⟩)
      | fail
    refine ⟨_, _, store_row sz3 hg31 (Nat.le_of_ble_eq_true rfl) rfl, by omega, ?_⟩
    generalize hs4 : Heap.set H3 b1 _ = H4
    have hg4 : H4.get b1 = some (.cells (Hl (sumI ((l.map (·.1)).take i) + l[i]!.1, sumI ((l.map (·.2)).take i))) 104 1) := set_get hs4
    have n4 := set_n hs4
    have o4 := set_old hs4
    have hg43 := (o4 b2 (by omega)).trans hg3
    repeat' first
      | refine CO.cons rfl ?_
      | refine CO.nil ?_
      | refine CV.region callees ?_
      | refine ⟨(⟨by omega, by omega⟩ : inI64 _), ?_⟩
      | (refine ⟨_, addrK (by decide) (by decide), ?_⟩)
      | (refine ⟨_, cell_load ag3 hg4 rfl, ?_⟩)
      | (refine ⟨_, cell_load ag3 hg43 rfl, ?_⟩)
      | fail
    refine ⟨_, _, store_row sz3 hg4 (Nat.le_of_ble_eq_true rfl) rfl, by omega, ?_⟩
    generalize hs5 : Heap.set H4 b1 _ = H5
    have hg5 : H5.get b1 = some (.cells (Hl (sumI ((l.map (·.1)).take i) + l[i]!.1, sumI ((l.map (·.2)).take i) + l[i]!.2)) 104 1) := set_get hs5
    have n5 := set_n hs5
    have o5 := set_old hs5
    rw [← e1, ← e2] at hg5
    have hr5 := (o5 b0 (by omega)).trans ((o4 b0 (by omega)).trans ((k3.2 b0 (by omega)).trans hrx))
    repeat' first
      | refine CO.cons rfl ?_
      | refine CO.nil ?_
      | refine CV.region callees ?_
      | refine ⟨(⟨by omega, by omega⟩ : inI64 _), ?_⟩
      | fail
    refine ⟨(i + 1), (by repeat' first | exact trivial | refine ⟨rfl, ?_⟩ | refine ⟨slot_int (by (try simp only [Int.toNat_natCast]); omega), ?_⟩), (by (try dsimp only); omega), ?_⟩
    exact ⟨by omega, hr5, hg5, keep_put (keep_put (kx.trans k3) (by omega) o4 n4) (by omega) o5 n5, by omega⟩
  have hie : i = l.length := by omega
  have e1 : sumI ((l.map (·.1)).take i) = sumA l := by rw [hie, ← List.length_map (f := (·.1)), List.take_length]; rfl
  have e2 : sumI ((l.map (·.2)).take i) = sumB l := by rw [hie, ← List.length_map (f := (·.2)), List.take_length]; rfl
  rw [e1, e2] at hgx
  repeat' first
    | refine CO.cons rfl ?_
    | refine CO.nil ?_
    | refine CV.seq ?_
    | refine CV.region callees ?_
    | refine CV.cond ?_
    | refine CV.exit ?_
    | (refine ⟨_, ld87 hgx, ?_⟩)
    | (refine ⟨fun _ => ?_, fun _ => ?_⟩ <;> first | (exfalso; omega) | skip)
    | fail
  refine ⟨_, _, st87 hrx, by omega, ?_⟩
  generalize hs6 : Heap.set Hx b0 _ = H6
  have hg6 : H6.get b0 = some (.cells (Hl (sumA l, sumB l)) 104 1) := set_get hs6
  have n6 := set_n hs6
  have o6 := set_old hs6
  repeat' first
    | refine CO.nil ?_
    | refine CV.ret ?_
    | fail
  exact ⟨_, ld87 hg6, rfl, rfl, keep_put kx (by omega) o6 n6⟩
/-- The heat of a minute. -/
def heatL (E : List Em) (m : Int) : Int × Int := (sumA (E.map (giv m)), sumB (E.map (giv m)))
theorem giv_bd {x : Em} {m : Int} (h : EmOk x) : (0 ≤ (giv m x).1 ∧ (giv m x).1 ≤ 1000) ∧ 0 ≤ (giv m x).2 ∧ (giv m x).2 ≤ 1000 := by
  obtain ⟨a1, a2, a3, a4, a5, a6, a7, a8, a9, a10, a11, a12⟩ := h
  unfold giv
  dsimp only
  constructor <;> split <;> omega
theorem giv_at {E : List Em} {m : Int} {i : Nat} (h : i < E.length) : (E.map (giv m))[i]! = giv m E[i]! := by
  rw [getElem!_pos _ i (by simpa using h), getElem!_pos E i h]; simp
set_option maxHeartbeats 4000000 in
set_option maxRecDepth 100000 in
theorem heatOf_spec {B : Nat} {H : Heap} {v : Value} {E : List Em} {m : Int} (hB : B ≤ H.n) (hv : RowS 6 H v (E.map Eml)) (hn : E.length ≤ 12) (hE : ∀ i, i < E.length → EmOk E[i]!) :
    CallB Try.prog B 72 [v, VJ m] H (fun r H' => r = Hv (heatL E m) ∧ Keep H H') := by
  refine CV.enter callees false rfl Try.func72 rfl (by kernel_rfl) (Nat.le_of_ble_eq_true rfl) hB ?_
  repeat' first
    | refine CO.cons rfl ?_
    | refine CO.nil ?_
    | refine CV.seq ?_
    | refine CV.region callees ?_
    | (refine ⟨_, _, al87, ?_⟩)
    | fail
  generalize hs0 : Heap.new H _ = H0
  have hg0 := new_get hs0
  have k0 := new_keep hs0
  have n0 := new_n hs0
  obtain ⟨b0, hbn0⟩ : ∃ b, Heap.n H = b := ⟨_, rfl⟩
  rw [hbn0] at hg0 n0 ⊢
  have hv0 := hv.keep k0
  repeat' first
    | refine CO.cons rfl ?_
    | (refine ⟨_, em_len hv0, ?_⟩)
    | fail
  refine ⟨_, _, make_rows un112 zero87b (by decide) E.length (by omega), ?_⟩
  generalize hs1 : Heap.new H0 _ = H1
  have hg1 := new_get hs1
  have k1 := new_keep hs1
  have n1 := new_n hs1
  obtain ⟨b1, hbn1⟩ : ∃ b, Heap.n H0 = b := ⟨_, rfl⟩
  rw [hbn1] at hg1 n1 ⊢
  have k01 := k0.trans k1
  have hr1 := (k1.2 b0 (by omega)).trans hg0
  have hv1 := hv.keep k01
  have ho1 : OwnK H1 (.slice (some ⟨b1, 0, none⟩) E.length 0) (List.replicate E.length (0, 0)) b1 := ⟨fun r hr => by obtain ⟨x, _, rfl⟩ := List.mem_map.1 hr; rfl, .inr ⟨b1, by simp, Nat.le_refl _, by omega, by rw [hg1, List.map_replicate]⟩⟩
  obtain ⟨ov, hov⟩ : ∃ ov, Value.slice (some ⟨b1, 0, none⟩) E.length 0 = ov := ⟨_, rfl⟩
  have hblk : blkOf ov = some b1 := by rw [← hov]; rfl
  rw [hov] at ho1 ⊢
  repeat' first
    | refine CO.cons rfl ?_
    | refine CO.nil ?_
    | refine CV.seq ?_
    | refine CV.region callees ?_
    | refine CV.block ?_
    | (refine ⟨_, em_len hv1, ?_⟩)
    | fail
  refine CV.loopc ?_
  refine WCv.rounds callees false (α := List (Int × Int) × Nat) (fun (L, i) => [(1, VJ m), (4, .pointer (some ⟨b0, 0, none⟩)), (5, ov), (11, v), (12, VJ E.length), (13, VJ i)]) (fun (L, i) Hz => i ≤ E.length ∧ L.length = E.length ∧ (∀ j : Nat, j < i → L[j]! = giv m E[j]!) ∧ OwnK Hz ov L b1 ∧ Hz.get b0 = some (.cells (Hl (0, 0)) 104 1) ∧ Keep H Hz ∧ b1 < Hz.n) (fun (L, i) => E.length - i) (List.replicate E.length (0, 0), 0) (by repeat' first | exact trivial | refine ⟨rfl, ?_⟩ | refine ⟨slot_int (by (try simp only [Int.toNat_natCast]); omega), ?_⟩) ?_ ?_
  · exact ⟨by omega, by simp, fun j hj => by omega, ho1, hr1, k01, by omega⟩
  rintro ⟨L, i⟩ Hx ⟨hi, hLl, hL, ho, hrx, kx, lx⟩ hBx
  by_cases hi2 : i < E.length
  · have hvx := hv.keep kx
    repeat' first
      | refine CO.cons rfl ?_
      | refine CO.nil ?_
      | refine CV.seq ?_
      | refine CV.region callees ?_
      | refine CV.cond ?_
      | refine CV.block ?_
      | refine CV.skip ?_
      | (refine ⟨_, em_addr hvx (by omega) (by omega), ?_⟩)
      | (refine ⟨_, em_load hvx hi2, ?_⟩)
      | (refine ⟨_, _, al89, ?_⟩)
      | (refine ⟨fun _ => ?_, fun _ => ?_⟩ <;> first | (exfalso; omega) | skip)
      | fail
    generalize hs2 : Heap.new Hx _ = H2
    have hg2 := new_get hs2
    have k2 := new_keep hs2
    have n2 := new_n hs2
    obtain ⟨b2, hbn2⟩ : ∃ b, Heap.n Hx = b := ⟨_, rfl⟩
    rw [hbn2] at hg2 n2 ⊢
    repeat' first
      | fail
    refine ⟨_, _, st89 hg2, by omega, ?_⟩
    generalize hs3 : Heap.set H2 b2 _ = H3
    have hg3 : H3.get b2 = some (.cells (Eml E[i]!) 106 1) := set_get hs3
    have n3 := set_n hs3
    have o3 := set_old hs3
    have k3 : Keep Hx H3 := keep_put k2 (by omega) o3 n3
    repeat' first
      | refine CO.cons rfl ?_
      | refine CO.nil ?_
      | refine CV.region callees ?_
      | (refine ⟨_, ld89 hg3, ?_⟩)
      | fail
    refine (given_spec (by omega) (hE i hi2)).mono ?_
    rintro r H4 ⟨rfl, k4⟩
    have l4 := k4.1
    have k34 := k3.trans k4
    have ho4 : OwnK H4 ov L b1 := OwnS.keep ho k34
    repeat' first
      | refine CO.cons rfl ?_
      | (refine ⟨_, kn_addr ho4.row (by omega) (by omega), ?_⟩)
      | fail
    refine kn_put ho4 (by omega) (by omega) ?_
    intro H5 ho5 kb5
    have l5 := kb5.le
    rw [Int.toNat_natCast] at ho5
    have hr5 := (kb5.get b0 (by omega) (by rw [hblk]; intro h; cases h; omega)).trans ((k34.2 b0 (by omega)).trans hrx)
    repeat' first
      | refine CO.cons rfl ?_
      | refine CO.nil ?_
      | refine CV.region callees ?_
      | refine ⟨(⟨by omega, by omega⟩ : inI64 _), ?_⟩
      | fail
    refine ⟨(L.set i (giv m E[i]!), i + 1), (by repeat' first | exact trivial | refine ⟨rfl, ?_⟩ | refine ⟨slot_int (by (try simp only [Int.toNat_natCast]); omega), ?_⟩), (by (try dsimp only); omega), ?_⟩
    refine ⟨by omega, by rw [List.length_set]; exact hLl, fun j hj => ?_, ho5, hr5, kb5.keep (kx.trans k34) fun c hc => by rw [hblk] at hc; cases hc; omega, by omega⟩
    by_cases hji : j = i
    · subst hji
      rw [getElem!_pos _ j (by rw [List.length_set]; omega)]; simp
    · rw [getElem!_pos _ j (by rw [List.length_set]; omega), List.getElem_set_ne (by omega), ← getElem!_pos L j (by omega)]
      exact hL j (by omega)
  have hie : i = E.length := by omega
  have hLe : L = E.map (giv m) := by
    apply List.ext_getElem (by rw [hLl, List.length_map])
    intro j h1 h2
    have := hL j (by omega)
    rw [← giv_at (by omega), getElem!_pos L j h1, getElem!_pos _ j h2] at this
    exact this
  subst hLe
  repeat' first
    | refine CO.cons rfl ?_
    | refine CO.nil ?_
    | refine CV.seq ?_
    | refine CV.region callees ?_
    | refine CV.cond ?_
    | refine CV.exit ?_
    | (refine ⟨fun _ => ?_, fun _ => ?_⟩ <;> first | (exfalso; omega) | skip)
    | fail
  refine (added_spec (by omega) ho.row (by rw [List.length_map]; exact hn) fun j hj => ?_).mono ?_
  · rw [List.length_map] at hj
    rw [giv_at hj]; exact giv_bd (hE j hj)
  rintro r H6 ⟨rfl, k6⟩
  have l6 := k6.1
  have hr6 := (k6.2 b0 (by omega)).trans hrx
  repeat' first
    | refine CO.cons rfl ?_
    | fail
  refine ⟨_, _, st87 hr6, by omega, ?_⟩
  generalize hs7 : Heap.set H6 b0 _ = H7
  have hg7 : H7.get b0 = some (.cells (Hl (heatL E m)) 104 1) := set_get hs7
  have n7 := set_n hs7
  have o7 := set_old hs7
  repeat' first
    | refine CO.nil ?_
    | refine CV.ret ?_
    | fail
  exact ⟨_, ld87 hg7, rfl, rfl, keep_put (kx.trans k6) (by omega) o7 n7⟩
end Go.Proofs.Ytglkphjjinmgmaa

