
/- Dishes of a menu; costs; what is enough. -/
import Derived.Test.Ytlamceokhbigaaax2g
set_option linter.unusedVariables false
set_option linter.unusedSimpArgs false
namespace Go.Proofs.Ytlamceokhbigaaa
open Go.AI
set_option maxRecDepth 100000 in
theorem checkDish_spec {B : Nat} {H : Heap} {d : Di} (hB : B ≤ H.n) (hd : DiOk d) :
    CallB Try.prog B 109 [Div d] H (fun r H' => r = VI 0 ∧ Keep H H') := by
  obtain ⟨a1, a2, a3, a4, a5, a6⟩ := hd
  refine CV.enter callees false rfl Try.func109 rfl (by kernel_rfl) (Nat.le_of_ble_eq_true rfl) hB ?_
  repeat' first
    | refine CO.cons rfl ?_
    | refine CV.seq ?_
    | refine CV.region callees ?_
    | fail
  refine ⟨(by simp only [notTuple]), ?_⟩
  rw [boxD]
  generalize hs0 : Heap.new H _ = H0
  have hg0 := new_get hs0
  have k0 := new_keep hs0
  have n0 := new_n hs0
  obtain ⟨b0, hbn0⟩ : ∃ b, Heap.n H = b := ⟨_, rfl⟩
  rw [hbn0] at hg0 n0 ⊢
  repeat' first
    | refine CO.cons rfl ?_
    | refine CO.nil ?_
    | refine CV.seq ?_
    | refine CV.region callees ?_
    | (refine ⟨_, fS foD0 (by decide), ?_⟩)
    | (refine ⟨_, cell_load ag3 hg0 rfl, ?_⟩)
    | fail
  refine (isWithin_yes (by omega) ⟨a1, a2⟩).mono ?_
  rintro r H1 ⟨rfl, rfl⟩
  repeat' first
    | refine CO.cons rfl ?_
    | refine CO.consG rfl ?_
    | (refine ⟨_, fS foD1 (by decide), ?_⟩)
    | (refine ⟨_, cell_load ag3 hg0 rfl, ?_⟩)
    | fail
  refine (isWithin_yes (by omega) ⟨a3, a4⟩).mono ?_
  rintro r H2 ⟨rfl, rfl⟩
  repeat' first
    | refine CO.cons rfl ?_
    | refine CO.consG rfl ?_
    | (refine ⟨_, fS foD2 (by decide), ?_⟩)
    | (refine ⟨_, cell_load ag3 hg0 rfl, ?_⟩)
    | fail
  refine (isWithin_yes (by omega) ⟨a5, a6⟩).mono ?_
  rintro r H3 ⟨rfl, rfl⟩
  repeat' first
    | refine CO.cons rfl ?_
    | refine CO.nil ?_
    | refine CV.seq ?_
    | refine CV.region callees ?_
    | refine CV.cond ?_
    | refine CV.skip ?_
    | refine CV.ret ?_
    | refine CO.consG rfl ?_
    | fail
  exact ⟨rfl, rfl, k0⟩
set_option maxHeartbeats 4000000 in
set_option maxRecDepth 100000 in
theorem checkDishes_spec {B : Nat} {H : Heap} {gv dv : Value} {gs : List Gu} {ds : List Di} (hB : B ≤ H.n) (hg : RowS 5 H gv (gs.map Gul)) (hd : RowS 3 H dv (ds.map Dil)) (hl : gs.length ≤ 10) (h : GsOk gs) (hdl : ds.length ≤ 16) (hok : ∀ i, i < ds.length → DiOk ds[i]!) :
    CallB Try.prog B 100 [gv, dv] H (fun r H' => r = VI 0 ∧ Keep H H') := by
  refine CV.enter callees false rfl Try.func100 rfl (by kernel_rfl) (Nat.le_of_ble_eq_true rfl) hB ?_
  repeat' first
    | refine CO.cons rfl ?_
    | refine CO.nil ?_
    | refine CV.seq ?_
    | refine CV.region callees ?_
    | fail
  refine (checkKnown_spec (by omega) hg hl h).mono ?_
  rintro r H1 ⟨rfl, k1⟩
  have l1 := k1.1
  have hd1 := hd.keep k1
  repeat' first
    | refine CO.cons rfl ?_
    | refine CO.nil ?_
    | refine CV.seq ?_
    | refine CV.region callees ?_
    | refine CV.cond ?_
    | refine CV.block ?_
    | refine CV.skip ?_
    | (refine ⟨_, di_len hd1, ?_⟩)
    | (refine ⟨fun _ => ?_, fun _ => ?_⟩ <;> first | (exfalso; omega) | skip)
    | fail
  refine CV.loopc ?_
  refine WCv.rounds callees false (α := Nat) (fun i => [(17, dv), (18, VI ds.length), (19, VI i)]) (fun i Hz => i ≤ ds.length ∧ Keep H1 Hz) (fun i => ds.length - i) (0) (by repeat' first | exact trivial | refine ⟨rfl, ?_⟩ | refine ⟨slot_int (by (try simp only [Int.toNat_natCast]); omega), ?_⟩) ?_ ?_
  · exact ⟨by omega, Keep.refl _⟩
  rintro i Hx ⟨hi, kx⟩ hBx
  have lx := kx.1
  by_cases hi2 : i < ds.length
  · have hdx := hd1.keep kx
    repeat' first
      | refine CO.cons rfl ?_
      | refine CO.nil ?_
      | refine CV.seq ?_
      | refine CV.region callees ?_
      | refine CV.cond ?_
      | refine CV.block ?_
      | refine CV.skip ?_
      | (refine ⟨_, di_addr hdx (by omega) (by omega), ?_⟩)
      | (refine ⟨_, di_load hdx hi2, ?_⟩)
      | (refine ⟨_, _, alDi, ?_⟩)
      | (refine ⟨fun _ => ?_, fun _ => ?_⟩ <;> first | (exfalso; omega) | skip)
      | fail
    generalize hs2 : Heap.new Hx _ = H2
    have hg2 := new_get hs2
    have k2 := new_keep hs2
    have n2 := new_n hs2
    obtain ⟨b2, hbn2⟩ : ∃ b, Heap.n Hx = b := ⟨_, rfl⟩
    rw [hbn2] at hg2 n2 ⊢
    repeat' first
      | fail
    refine ⟨_, _, stDi hg2, by omega, ?_⟩
    generalize hs3 : Heap.set H2 b2 _ = H3
    have hg3 : H3.get b2 = some (.cells (Dil ds[i]!) dT 1) := set_get hs3
    have n3 := set_n hs3
    have o3 := set_old hs3
    have k3 : Keep Hx H3 := keep_put k2 (by omega) o3 n3
    have l3 := k3.1
    repeat' first
      | refine CO.cons rfl ?_
      | refine CO.nil ?_
      | refine CV.seq ?_
      | refine CV.region callees ?_
      | (refine ⟨_, ldDi hg3, ?_⟩)
      | fail
    refine (checkDish_spec (by omega) (hok i hi2)).mono ?_
    rintro r H4 ⟨rfl, k4⟩
    repeat' first
      | refine CO.cons rfl ?_
      | refine CO.nil ?_
      | refine CV.seq ?_
      | refine CV.region callees ?_
      | refine CV.cond ?_
      | refine CV.skip ?_
      | refine ⟨(⟨by omega, by omega⟩ : inI64 _), ?_⟩
      | (refine ⟨fun _ => ?_, fun _ => ?_⟩ <;> first | (exfalso; omega) | skip)
      | fail
    refine ⟨(i + 1), (by repeat' first | exact trivial | refine ⟨rfl, ?_⟩ | refine ⟨slot_int (by (try simp only [Int.toNat_natCast]); omega), ?_⟩), (by (try dsimp only); omega), ?_⟩
    exact ⟨by omega, kx.trans (k3.trans k4)⟩
  repeat' first
    | refine CO.cons rfl ?_
    | refine CO.nil ?_
    | refine CV.seq ?_
    | refine CV.region callees ?_
    | refine CV.cond ?_
    | refine CV.exit ?_
    | refine CV.ret ?_
    | (refine ⟨fun _ => ?_, fun _ => ?_⟩ <;> first | (exfalso; omega) | skip)
    | fail
  exact ⟨rfl, rfl, k1.trans kx⟩
/-- The dishes of a menu. -/
def pickD (ds : List Di) (m : List Int) : List Di := m.map fun x => ds[x.toNat]!
set_option maxHeartbeats 4000000 in
set_option maxRecDepth 100000 in
theorem pickD_spec {B : Nat} {H : Heap} {dv mv : Value} {ds : List Di} {m : List Int} (hB : B ≤ H.n) (hd : RowS 3 H dv (ds.map Dil)) (hm : Ints H mv m) (hml : m.length ≤ 100) (hr : ∀ x ∈ m, 0 ≤ x ∧ x < ds.length) :
    CallB Try.prog B 102 [dv, mv] H (fun r H' => OwnD H' r (pickD ds m) H.n ∧ Keep H H') := by
  refine CV.enter callees false rfl Try.func102 rfl (by kernel_rfl) (Nat.le_of_ble_eq_true rfl) hB ?_
  repeat' first
    | refine CO.cons rfl ?_
    | refine CO.nil ?_
    | refine CV.seq ?_
    | refine CV.region callees ?_
    | refine CV.block ?_
    | refine ⟨_, ints_len (by assumption), ?_⟩
    | fail
  refine CV.loopc ?_
  refine WCv.rounds callees false (α := Nat × Value) (fun (i, q) => [(0, dv), (5, q), (8, mv), (9, VI m.length), (10, VI i)]) (fun (i, q) Hz => i ≤ m.length ∧ OwnD Hz q (pickD ds (m.take i)) H.n ∧ Keep H Hz) (fun (i, q) => m.length - i) (0, nilS) (by repeat' first | exact trivial | refine ⟨rfl, ?_⟩ | refine ⟨slot_int (by (try simp only [Int.toNat_natCast]); omega), ?_⟩) ?_ ?_
  · exact ⟨by omega, OwnS.nil, Keep.refl _⟩
  rintro ⟨i, q⟩ Hx ⟨hi, hq, kx⟩ hBx
  have lx := kx.1
  have hmx : Ints Hx mv m := Row.keep hm kx
  have hdx := hd.keep kx
  by_cases hi2 : i < m.length
  · have hxi : m[(i : Int).toNat]! = m[i]! := rfl
    have hb := hr m[i]! (by rw [getElem!_pos m i hi2]; exact List.getElem_mem _)
    have hlt : m[i]!.toNat < ds.length := by omega
    have hsn : pickD ds (m.take (i + 1)) = pickD ds (m.take i) ++ [ds[m[i]!.toNat]!] := by unfold pickD; rw [one_at hi2, List.map_append]; rfl
    have hpl : (pickD ds (m.take i)).length = i := by unfold pickD; rw [List.length_map, List.length_take]; omega
    repeat' first
      | refine CO.cons rfl ?_
      | refine CO.nil ?_
      | refine CV.seq ?_
      | refine CV.region callees ?_
      | refine CV.cond ?_
      | refine CV.block ?_
      | refine CV.skip ?_
      | refine ⟨_, ints_addr (by assumption) (by omega) (by omega), ?_⟩
      | refine ⟨_, ints_load (by assumption) (by omega) (by omega), ?_⟩
      | (refine ⟨_, di_addr hdx (by omega) (by omega), ?_⟩)
      | (refine ⟨_, di_load hdx hlt, ?_⟩)
      | (refine ⟨_, _, di_one, ?_⟩)
      | (refine ⟨fun _ => ?_, fun _ => ?_⟩ <;> first | (exfalso; omega) | skip)
      | fail
    refine di_push hq (by omega) hB (by omega) ?_
    intro q3 H3 hq3 kb3 hf3
    repeat' first
      | refine CO.cons rfl ?_
      | refine CO.nil ?_
      | refine CV.region callees ?_
      | refine ⟨(⟨by omega, by omega⟩ : inI64 _), ?_⟩
      | fail
    refine ⟨(i + 1, q3), (by repeat' first | exact trivial | refine ⟨rfl, ?_⟩ | refine ⟨slot_int (by (try simp only [Int.toNat_natCast]); omega), ?_⟩), (by (try dsimp only); omega), ?_⟩
    exact ⟨by omega, by rw [hsn]; exact hq3, kb3.keep kx (fun c hc => (hq.lt hc).1)⟩
  obtain rfl : i = m.length := by omega
  rw [List.take_length] at hq
  repeat' first
    | refine CO.cons rfl ?_
    | refine CO.nil ?_
    | refine CV.seq ?_
    | refine CV.region callees ?_
    | refine CV.cond ?_
    | refine CV.exit ?_
    | refine CV.ret ?_
    | (refine ⟨fun _ => ?_, fun _ => ?_⟩ <;> first | (exfalso; omega) | skip)
    | fail
  exact ⟨by simp only [List.all_cons, List.all_nil, OwnS.notTuple hq]; rfl, hq, kx⟩
set_option maxHeartbeats 4000000 in
set_option maxRecDepth 100000 in
theorem costOf_spec {B : Nat} {H : Heap} {dv : Value} {ds : List Di} (hB : B ≤ H.n) (hd : RowS 3 H dv (ds.map Dil)) (hdl : ds.length ≤ 100) (hok : ∀ i, i < ds.length → DiOk ds[i]!) :
    CallB Try.prog B 103 [dv] H (fun r H' => r = VI (sumI (ds.map (·.co))) ∧ Keep H H') := by
  refine CV.enter callees false rfl Try.func103 rfl (by kernel_rfl) (Nat.le_of_ble_eq_true rfl) hB ?_
  repeat' first
    | refine CO.cons rfl ?_
    | refine CO.nil ?_
    | refine CV.seq ?_
    | refine CV.region callees ?_
    | refine CV.block ?_
    | (refine ⟨_, di_len hd, ?_⟩)
    | fail
  refine CV.loopc ?_
  refine WCv.rounds callees false (α := Nat × Value) (fun (i, q) => [(3, q), (6, dv), (7, VI ds.length), (8, VI i)]) (fun (i, q) Hz => i ≤ ds.length ∧ Own 3 Hz q (((ds.take i).map (·.co)).map VI) H.n ∧ Keep H Hz) (fun (i, q) => ds.length - i) (0, nilS) (by repeat' first | exact trivial | refine ⟨rfl, ?_⟩ | refine ⟨slot_int (by (try simp only [Int.toNat_natCast]); omega), ?_⟩) ?_ ?_
  · exact ⟨by omega, .inl ⟨rfl, rfl⟩, Keep.refl _⟩
  rintro ⟨i, q⟩ Hx ⟨hi, hq, kx⟩ hBx
  have lx := kx.1
  have hdx := hd.keep kx
  by_cases hi2 : i < ds.length
  · have hsn : (ds.take (i + 1)).map (·.co) = (ds.take i).map (·.co) ++ [ds[i]!.co] := by rw [one_at hi2, List.map_append]; rfl
    repeat' first
      | refine CO.cons rfl ?_
      | refine CO.nil ?_
      | refine CV.seq ?_
      | refine CV.region callees ?_
      | refine CV.cond ?_
      | refine CV.block ?_
      | refine CV.skip ?_
      | (refine ⟨_, di_addr hdx (by omega) (by omega), ?_⟩)
      | (refine ⟨_, di_load hdx hi2, ?_⟩)
      | (refine ⟨_, _, alDi, ?_⟩)
      | (refine ⟨fun _ => ?_, fun _ => ?_⟩ <;> first | (exfalso; omega) | skip)
      | fail
    generalize hs2 : Heap.new Hx _ = H2
    have hg2 := new_get hs2
    have k2 := new_keep hs2
    have n2 := new_n hs2
    obtain ⟨b2, hbn2⟩ : ∃ b, Heap.n Hx = b := ⟨_, rfl⟩
    rw [hbn2] at hg2 n2 ⊢
    repeat' first
      | fail
    refine ⟨_, _, stDi hg2, by omega, ?_⟩
    generalize hs3 : Heap.set H2 b2 _ = H3
    have hg3 : H3.get b2 = some (.cells (Dil ds[i]!) dT 1) := set_get hs3
    have n3 := set_n hs3
    have o3 := set_old hs3
    have k3 : Keep Hx H3 := keep_put k2 (by omega) o3 n3
    have l3 := k3.1
    have e2 : aload Try.prog 3 H3 (.pointer (some ⟨b2, 0 + 2, none⟩)) = some (VI ds[i]!.co) := cell_load ag3 hg3 rfl
    repeat' first
      | refine CO.cons rfl ?_
      | refine CO.nil ?_
      | refine CV.region callees ?_
      | (refine ⟨_, fS foD2 (by decide), ?_⟩)
      | (refine ⟨_, e2, ?_⟩)
      | (refine ⟨_, _, build_one un22 one3 rfl, ?_⟩)
      | fail
    refine push_ask (Own.keep hq k3) (by omega) hB (by rw [List.length_map, List.length_take]; omega) ?_
    intro q5 H5 hq5 kb5 hf5
    repeat' first
      | refine CO.cons rfl ?_
      | refine CO.nil ?_
      | refine CV.region callees ?_
      | refine ⟨(⟨by omega, by omega⟩ : inI64 _), ?_⟩
      | fail
    refine ⟨(i + 1, q5), (by repeat' first | exact trivial | refine ⟨rfl, ?_⟩ | refine ⟨slot_int (by (try simp only [Int.toNat_natCast]); omega), ?_⟩), (by (try dsimp only); omega), ?_⟩
    exact ⟨by omega, by rw [hsn]; exact hq5, kb5.keep (kx.trans k3) (fun c hc => (hq.lt hc).1)⟩
  obtain rfl : i = ds.length := by omega
  rw [List.take_length] at hq
  repeat' first
    | refine CO.cons rfl ?_
    | refine CO.nil ?_
    | refine CV.seq ?_
    | refine CV.region callees ?_
    | refine CV.cond ?_
    | refine CV.exit ?_
    | (refine ⟨fun _ => ?_, fun _ => ?_⟩ <;> first | (exfalso; omega) | skip)
    | fail
  refine (sum2_spec (by omega) hq.row (fun x hx => ?_) (by rw [List.length_map]; exact hdl)).mono ?_
  · obtain ⟨y, hy, rfl⟩ := List.mem_map.1 hx
    obtain ⟨j, hj, e⟩ := List.getElem_of_mem hy
    have := hok j hj
    rw [getElem!_pos ds j hj, e] at this
    exact ⟨this.c0, this.c1⟩
  rintro r H1 ⟨rfl, rfl⟩
  repeat' first
    | refine CO.cons rfl ?_
    | refine CO.nil ?_
    | refine CV.ret ?_
    | fail
  exact ⟨rfl, rfl, kx⟩
end Go.Proofs.Ytlamceokhbigaaa

