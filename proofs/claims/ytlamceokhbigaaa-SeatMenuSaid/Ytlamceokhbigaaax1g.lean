
/- Menus, handed out one by one. -/
import Derived.Test.YtlamceokhbigaaaTbg
import Derived.Test.Ytlamceokhbigaaax0g
set_option linter.unusedVariables false
set_option linter.unusedSimpArgs false
namespace Go.Proofs.Ytlamceokhbigaaa
open Go.AI
abbrev dT : TypeId := 70
abbrev dS : TypeId := 66
abbrev Dil (r : Di) : List Value := [VI r.tn, VI r.pa, VI r.co]
abbrev Div (r : Di) : Value := .agg #[VI r.tn, VI r.pa, VI r.co]
theorem agDi : isAggB Try.prog dT = some true := by kernel_rfl
theorem szDi : sizeB Try.prog dT = some 3 := by kernel_rfl
theorem unDi : Try.prog.underlying dS = some (.slice dT) := by kernel_rfl
theorem agDS : isAggB Try.prog dS = some false := by kernel_rfl
theorem foD0 : fieldOff Try.prog dT 0 = some (0, 1) := by kernel_rfl
theorem foD1 : fieldOff Try.prog dT 1 = some (1, 1) := by kernel_rfl
theorem foD2 : fieldOff Try.prog dT 2 = some (2, 1) := by kernel_rfl
theorem di_at {l : List Di} {j : Nat} (hj : j < l.length) : (l.map Dil)[j]? = some (Dil l[j]!) := by rw [List.getElem?_map, List.getElem?_eq_getElem hj, getElem!_pos l j hj]; rfl
theorem di_len {H : Heap} {v : Value} {l : List Di} (h : RowS 3 H v (l.map Dil)) : alen Try.prog H dS v = some (.int .i64 l.length) := by
  have := h.alen unDi; rwa [List.length_map] at this
theorem di_addr {H : Heap} {v : Value} {l : List Di} (h : RowS 3 H v (l.map Dil)) {n : Int} (h0 : 0 ≤ n) (h1 : n < l.length) : aindexAddr Try.prog dS v (.int .i64 n) = some (elemS v 3 n.toNat) := h.addr unDi szDi h0 (by rw [List.length_map]; exact h1)
theorem di_load {H : Heap} {v : Value} {l : List Di} (h : RowS 3 H v (l.map Dil)) {j : Nat} (hj : j < l.length) : aload Try.prog dT H (elemS v 3 j) = some (Div l[j]!) := h.load agDi szDi (di_at hj)
theorem di_f {H : Heap} {v : Value} {l : List Di} (h : RowS 3 H v (l.map Dil)) {f o n j : Nat} (hf : fieldOff Try.prog dT f = some (o, n)) (hn : n ≠ 0) (hj : j < l.length) : afieldAddr Try.prog dT (elemS v 3 j) f = some (fieldOf (elemS v 3 j) o) := h.faddr hf hn (by rw [List.length_map]; exact hj)
theorem di_l {H : Heap} {v : Value} {l : List Di} (h : RowS 3 H v (l.map Dil)) {o j : Nat} {w : Value} (hj : j < l.length) (ho : (Dil l[j]!)[o]? = some w) : aload Try.prog 3 H (fieldOf (elemS v 3 j) o) = some w := h.fload ag3 (di_at hj) ho
def growMP (ds : List Di) (r : Nat) (pre : List Int) (i : Nat) : List (List Int) := (List.range i).flatMap fun (x : Nat) => if ds[x]!.tn = (pre.length : Int) then growM ds r (pre ++ [(x : Int)]) else []
theorem growMP_succ {ds : List Di} {r : Nat} {pre : List Int} {i : Nat} : growMP ds r pre (i + 1) = growMP ds r pre i ++ (if ds[i]!.tn = (pre.length : Int) then growM ds r (pre ++ [(i : Int)]) else []) := by
  unfold growMP
  rw [List.range_succ, List.flatMap_append]
  simp
theorem growMP_pre {ds : List Di} {r : Nat} {pre : List Int} : ∀ {d i : Nat}, growMP ds r pre i <+: growMP ds r pre (i + d)
  | 0, i => List.prefix_refl _
  | d + 1, i => by
    refine List.IsPrefix.trans (growMP_pre (d := d)) ?_
    rw [show i + (d + 1) = i + d + 1 by omega, growMP_succ]
    exact List.prefix_append _ _
/-- What is captured. -/
structure CapsM (c n d : Nat) (dv : Value) (ds : List Di) (X : Heap) : Prop where
  a : X.get c = some (.cells [VI n] 3 1)
  b : X.get (c + 1) = some (.cells [VI ds.length] 3 1)
  f : X.get (c + 2) = some (.cells [.func (.func 134) #[] #[.pointer (some ⟨d, 0, none⟩)]] fT 1)
  d : X.get d = some (.cells [dv] dS 1)
  r : RowS 3 X dv (ds.map Dil)
set_option maxRecDepth 100000 in
theorem fitsM_spec {B d i : Nat} {H : Heap} {v dv : Value} {xs : List Int} {ds : List Di} (hB : B ≤ H.n) (hv : Ints H v xs) (hn : xs.length < 1000000) (hd : H.get d = some (.cells [dv] dS 1)) (hr : RowS 3 H dv (ds.map Dil)) (hi : i < ds.length) :
    CallB Try.prog B 134 [v, VI i, .pointer (some ⟨d, 0, none⟩)] H (fun r H' => r = .bool (decide (ds[i]!.tn = (xs.length : Int))) ∧ H' = H) := by
  have hxi : ds[(i : Int).toNat]!.tn = ds[i]!.tn := rfl
  refine CV.enter callees false rfl Try.func134 rfl (by kernel_rfl) (Nat.le_of_ble_eq_true rfl) hB ?_
  by_cases c : ds[i]!.tn = (xs.length : Int)
  · rw [decide_eq_true c]
    repeat' first
      | refine CO.cons rfl ?_
      | refine CO.nil ?_
      | refine CV.seq ?_
      | refine CV.region callees ?_
      | refine CV.ret ?_
      | refine ⟨_, ints_len (by assumption), ?_⟩
      | (refine ⟨_, cell_load agDS hd rfl, ?_⟩)
      | (refine ⟨_, di_addr hr (by omega) (by omega), ?_⟩)
      | (refine ⟨_, di_f hr foD0 (by decide) hi, ?_⟩)
      | (refine ⟨_, di_l hr (o := 0) hi rfl, ?_⟩)
      | (refine ⟨fun _ => ?_, fun _ => ?_⟩ <;> first | (exfalso; omega) | skip)
      | fail
    exact ⟨rfl, rfl, rfl⟩
  · rw [decide_eq_false c]
    repeat' first
      | refine CO.cons rfl ?_
      | refine CO.nil ?_
      | refine CV.seq ?_
      | refine CV.region callees ?_
      | refine CV.ret ?_
      | refine ⟨_, ints_len (by assumption), ?_⟩
      | (refine ⟨_, cell_load agDS hd rfl, ?_⟩)
      | (refine ⟨_, di_addr hr (by omega) (by omega), ?_⟩)
      | (refine ⟨_, di_f hr foD0 (by decide) hi, ?_⟩)
      | (refine ⟨_, di_l hr (o := 0) hi rfl, ?_⟩)
      | (refine ⟨fun _ => ?_, fun _ => ?_⟩ <;> first | (exfalso; omega) | skip)
      | fail
    exact ⟨rfl, rfl, rfl⟩
set_option maxHeartbeats 16000000 in
set_option maxRecDepth 100000 in
theorem fillM_spec {B c b l n d : Nat} {dv : Value} {ds : List Di} {L : List (List Int)} (J : List (List Int) → Heap → Prop) (hBb : B ≤ b) (hn : n ≤ 4) (hds : ds.length ≤ 16) (hcb : c + 2 < b)
    (hJc : ∀ S X, J S X → CapsM c n d dv ds X) (hJs : ∀ S X X', J S X → b + 1 < X.n → KeepX (b + 1) X X' → J S X')
    (hY : ∀ S o X, (S ++ [o]) <+: L → J S X → Mine c b l n o X → B ≤ X.n → b + 4 ≤ X.n → RoundB Try.prog B l [.slice (some ⟨b + 1, 0, none⟩) n 0] X (fun r X' => r = .bool true ∧ J (S ++ [o]) X' ∧ (∀ q, b ≤ q → q < b + 4 → X'.get q = X.get q) ∧ X.n ≤ X'.n)) :
    ∀ (r place : Nat) (pre xs : List Int) (S : List (List Int)) (X : Heap), place + r = n → pre.length = place → (S ++ growM ds r pre) <+: L → J S X → Mine c b l n xs X → xs.take place = pre → B ≤ X.n → b + 4 ≤ X.n →
    CallB Try.prog B 146 [VI place, .pointer (some ⟨c, 0, none⟩), .pointer (some ⟨b, 0, none⟩), .pointer (some ⟨b + 2, 0, none⟩), .pointer (some ⟨c + 1, 0, none⟩), .pointer (some ⟨c + 2, 0, none⟩), .pointer (some ⟨b + 3, 0, none⟩)] X
      (fun v X' => v = .bool true ∧ J (S ++ growM ds r pre) X' ∧ (∃ xs', Mine c b l n xs' X' ∧ xs'.take place = pre) ∧ X.n ≤ X'.n) := by
  intro r
  induction r with
  | zero =>
    intro place pre xs S X hpl hprl hL hJ hM htk hBX hbX
    have hc := hJc S X hJ
    obtain rfl : place = n := by omega
    have hxp : xs = pre := by rw [← htk, List.take_of_length_le (by rw [hM.n]; exact Nat.le_refl _)]
    subst hxp
    refine CV.enter callees false rfl Try.func146 rfl (by kernel_rfl) (Nat.le_of_ble_eq_true rfl) hBX ?_
    repeat' first
      | refine CO.cons rfl ?_
      | refine CO.nil ?_
      | refine CV.seq ?_
      | refine CV.region callees ?_
      | refine CV.cond ?_
      | (refine ⟨_, cell_load ag3 hc.a rfl, ?_⟩)
      | (refine ⟨_, cell_load agY hM.y rfl, ?_⟩)
      | (refine ⟨_, cell_load ag22 hM.l rfl, ?_⟩)
      | (refine ⟨fun _ => ?_, fun _ => ?_⟩ <;> first | (exfalso; omega) | skip)
      | fail
    refine (hY S xs X hL hJ hM hBX hbX).mono ?_
    rintro v X1 ⟨rfl, hJ1, hfr, l1⟩
    repeat' first
      | refine CO.cons rfl ?_
      | refine CO.nil ?_
      | refine CV.ret ?_
      | fail
    exact ⟨rfl, rfl, hJ1, ⟨xs, ⟨(hfr b (by omega) (by omega)).trans hM.y, (hfr (b + 1) (by omega) (by omega)).trans hM.a, (hfr (b + 2) (by omega) (by omega)).trans hM.l, (hfr (b + 3) (by omega) (by omega)).trans hM.f, hM.n⟩, htk⟩, l1⟩
  | succ r ih =>
    intro place pre xs S X hpl hprl hL hJ hM htk hBX hbX
    have hc := hJc S X hJ
    have hfl : growM ds (r + 1) pre = growMP ds r pre ds.length := rfl
    rw [hfl] at hL
    refine CV.enter callees false rfl Try.func146 rfl (by kernel_rfl) (Nat.le_of_ble_eq_true rfl) hBX ?_
    repeat' first
      | refine CO.cons rfl ?_
      | refine CO.nil ?_
      | refine CV.seq ?_
      | refine CV.region callees ?_
      | refine CV.cond ?_
      | refine CV.block ?_
      | refine CV.skip ?_
      | (refine ⟨_, cell_load ag3 hc.a rfl, ?_⟩)
      | (refine ⟨_, cell_load ag3 hc.b rfl, ?_⟩)
      | (refine ⟨fun _ => ?_, fun _ => ?_⟩ <;> first | (exfalso; omega) | skip)
      | fail
    refine CV.loopc ?_
    refine WCv.rounds callees false (α := Nat × List Int) (fun (i, xs) => [(0, VI place), (1, .pointer (some ⟨c, 0, none⟩)), (2, .pointer (some ⟨b, 0, none⟩)), (3, .pointer (some ⟨b + 2, 0, none⟩)), (4, .pointer (some ⟨c + 1, 0, none⟩)), (5, .pointer (some ⟨c + 2, 0, none⟩)), (6, .pointer (some ⟨b + 3, 0, none⟩)), (16, VI ds.length), (17, VI i)]) (fun (i, xs) Hz => i ≤ ds.length ∧ J (S ++ growMP ds r pre i) Hz ∧ Mine c b l n xs Hz ∧ xs.take place = pre ∧ X.n ≤ Hz.n) (fun (i, xs) => ds.length - i) (0, xs) (by repeat' first | exact trivial | refine ⟨rfl, ?_⟩ | refine ⟨slot_int (by (try simp only [Int.toNat_natCast]); omega), ?_⟩) ?_ ?_
    · exact ⟨by omega, by rw [show growMP ds r pre 0 = [] from rfl, List.append_nil]; exact hJ, hM, htk, Nat.le_refl _⟩
    clear hJ hM htk hc xs
    rintro ⟨i, xs⟩ Hx ⟨hi, hJ, hM, htk, lx⟩ hBx
    by_cases hi2 : i < ds.length
    · have hc := hJc _ Hx hJ
      have hrow := hM.row (by omega)
      have hxl := hM.n
      obtain ⟨u, hu, hur⟩ := row_slice (i := (place : Int)) (kd := .i64) un22 sz3 hrow (by omega) (by rw [List.length_map]; omega)
      rw [← List.map_take, show ((place : Int)).toNat = place by omega, htk] at hur
      have hui : Ints Hx u pre := hur
      repeat' first
        | refine CO.cons rfl ?_
        | refine CO.nil ?_
        | refine CV.seq ?_
        | refine CV.region callees ?_
        | refine CV.cond ?_
        | refine CV.block ?_
        | refine CV.skip ?_
        | refine CV.draw callees (by decide +kernel) ?_
        | refine CH.cons rfl ?_
        | refine CH.nil ?_
        | (refine ⟨_, cell_load agF hc.f rfl, ?_⟩)
        | (refine ⟨_, cell_load ag22 hM.l rfl, ?_⟩)
        | (refine ⟨_, hu, ?_⟩)
        | (refine ⟨fun _ => ?_, fun _ => ?_⟩ <;> first | (exfalso; omega) | skip)
        | fail
      refine (fitsM_spec (by omega) hui (by omega) hc.d hc.r hi2).mono ?_
      by_cases hm : ds[i]!.tn = (pre.length : Int)
      rotate_left
      · rw [decide_eq_false hm]
        rintro v H1 ⟨rfl, rfl⟩
        repeat' first
          | refine CO.cons rfl ?_
          | refine CO.nil ?_
          | refine CV.region callees ?_
          | refine CV.cond ?_
          | refine CV.exit ?_
          | refine CH.cons rfl ?_
          | refine CH.nil ?_
          | refine ⟨(⟨by omega, by omega⟩ : inI64 _), ?_⟩
          | fail
        refine ⟨(i + 1, xs), (by repeat' first | exact trivial | refine ⟨rfl, ?_⟩ | refine ⟨slot_int (by (try simp only [Int.toNat_natCast]); omega), ?_⟩), (by (try dsimp only); omega), ?_⟩
        exact ⟨by omega, by rw [growMP_succ, if_neg hm, List.append_nil]; exact hJ, hM, htk, lx⟩
      · rw [decide_eq_true hm]
        rintro v H1 ⟨rfl, rfl⟩
        repeat' first
          | refine CO.cons rfl ?_
          | refine CO.nil ?_
          | refine CV.seq ?_
          | refine CV.region callees ?_
          | refine CV.cond ?_
          | refine CV.skip ?_
          | refine CH.cons rfl ?_
          | refine CH.nil ?_
          | refine ⟨_, ints_addr (by assumption) (by omega) (by omega), ?_⟩
          | (refine ⟨_, cell_load ag22 hM.l rfl, ?_⟩)
          | fail
        refine ⟨_, _, store_row (i := 0 + ((place : Int)).toNat) sz3 hM.a (by rw [List.length_map]; omega) rfl, by omega, ?_⟩
        rw [← List.map_set]
        generalize hs1 : Heap.set H1 (b + 1) _ = X1
        have hg1 := set_get hs1
        have n1 := set_n hs1
        have o1 := set_old hs1
        have hpt : 0 + ((place : Int)).toNat = place := by omega
        rw [hpt] at hg1
        have hM1 : Mine c b l n (xs.set place (i : Int)) X1 := ⟨(o1 b (by omega)).trans hM.y, hg1, (o1 (b + 2) (by omega)).trans hM.l, (o1 (b + 3) (by omega)).trans hM.f, by rw [List.length_set]; exact hM.n⟩
        have hJ1 := hJs _ H1 X1 hJ (by omega) ⟨by omega, fun q _ hq => o1 q hq⟩
        have htk1 : (xs.set place (i : Int)).take (place + 1) = pre ++ [(i : Int)] := by
          rw [one_at (by rw [List.length_set]; omega), List.take_set_of_le (Nat.le_refl _), htk, getElem!_pos _ place (by rw [List.length_set]; omega), List.getElem_set_self]
        have hsub : (S ++ growMP ds r pre i) ++ growM ds r (pre ++ [(i : Int)]) <+: L := by
          refine List.IsPrefix.trans ?_ hL
          rw [List.append_assoc]
          have := growMP_pre (ds := ds) (r := r) (pre := pre) (d := ds.length - (i + 1)) (i := i + 1)
          rw [growMP_succ, if_pos hm, show i + 1 + (ds.length - (i + 1)) = ds.length by omega] at this
          exact List.prefix_append_right_inj S |>.2 this
        have hih := ih (place + 1) (pre ++ [(i : Int)]) (xs.set place (i : Int)) (S ++ growMP ds r pre i) X1 (by omega) (by rw [List.length_append, List.length_singleton]; omega) hsub hJ1 hM1 htk1 (by omega) (by omega)
        rw [show ((place + 1 : Nat) : Int) = (place : Int) + 1 by omega] at hih
        repeat' first
          | refine CO.cons rfl ?_
          | refine CO.nil ?_
          | refine CV.seq ?_
          | refine CV.region callees ?_
          | refine ⟨(⟨by omega, by omega⟩ : inI64 _), ?_⟩
          | (refine ⟨_, cell_load agG hM1.f rfl, ?_⟩)
          | fail
        refine hih.mono ?_
        rintro v X2 ⟨rfl, hJ2, ⟨xs2, hM2, htk2⟩, l2⟩
        repeat' first
          | refine CO.cons rfl ?_
          | refine CO.nil ?_
          | refine CV.region callees ?_
          | refine CV.cond ?_
          | refine CV.skip ?_
          | refine ⟨(⟨by omega, by omega⟩ : inI64 _), ?_⟩
          | fail
        refine ⟨(i + 1, xs2), (by repeat' first | exact trivial | refine ⟨rfl, ?_⟩ | refine ⟨slot_int (by (try simp only [Int.toNat_natCast]); omega), ?_⟩), (by (try dsimp only); omega), ?_⟩
        refine ⟨by omega, by rw [growMP_succ, if_pos hm, ← List.append_assoc]; exact hJ2, hM2, ?_, by omega⟩
        have := congrArg (List.take place) htk2
        rw [List.take_take, Nat.min_eq_left (by omega), List.take_append_of_le_length (by omega)] at this
        rw [this]
        exact List.take_of_length_le (by omega)
    obtain rfl : i = ds.length := by omega
    repeat' first
      | refine CO.cons rfl ?_
      | refine CO.nil ?_
      | refine CV.seq ?_
      | refine CV.region callees ?_
      | refine CV.cond ?_
      | refine CV.exit ?_
      | refine CV.ret ?_
      | (refine ⟨fun _ => ?_, fun _ => ?_⟩ <;> first | (exfalso; omega) | skip)
      | fail
    exact ⟨rfl, rfl, hJ, ⟨xs, hM, htk⟩, lx⟩
set_option maxHeartbeats 16000000 in
set_option maxRecDepth 100000 in
theorem listsM_spec {B c l n d : Nat} {dv : Value} {ds : List Di} {H : Heap} (J : List (List Int) → Heap → Prop) (hB : B ≤ H.n) (hn : n ≤ 4) (hds : ds.length ≤ 16) (hcb : c + 2 < H.n)
    (hC : CapsM c n d dv ds H) (hJc : ∀ S X, J S X → CapsM c n d dv ds X) (hJ0 : ∀ X, Keep H X → H.n + 4 ≤ X.n → J [] X) (hJs : ∀ S X X', J S X → H.n + 1 < X.n → KeepX (H.n + 1) X X' → J S X')
    (hY : ∀ S o X, (S ++ [o]) <+: growM ds n [] → J S X → Mine c H.n l n o X → B ≤ X.n → H.n + 4 ≤ X.n → RoundB Try.prog B l [.slice (some ⟨H.n + 1, 0, none⟩) n 0] X (fun r X' => r = .bool true ∧ J (S ++ [o]) X' ∧ (∀ q, H.n ≤ q → q < H.n + 4 → X'.get q = X.get q) ∧ X.n ≤ X'.n)) :
    CallB Try.prog B 145 [.func (.yield l) #[] #[], .pointer (some ⟨c, 0, none⟩), .pointer (some ⟨c + 1, 0, none⟩), .pointer (some ⟨c + 2, 0, none⟩)] H (fun _ X' => J (growM ds n []) X' ∧ H.n ≤ X'.n) := by
  refine CV.enter callees false rfl Try.func145 rfl (by kernel_rfl) (Nat.le_of_ble_eq_true rfl) hB ?_
  repeat' first
    | refine CO.cons rfl ?_
    | refine CV.seq ?_
    | refine CV.region callees ?_
    | fail
  refine ⟨(by rfl), ?_⟩
  generalize hs0' : anew H _ _ _ = H0
  have hs0 : H.new (.cells [.func (.yield l) #[] #[]] yT 1) = H0 := hs0'
  have hg0 := new_get hs0
  have k0 := new_keep hs0
  have n0 := new_n hs0
  have hc0 := (k0.2 c (by omega)).trans hC.a
  repeat' first
    | refine CO.cons rfl ?_
    | refine CO.nil ?_
    | refine CV.seq ?_
    | refine CV.region callees ?_
    | (refine ⟨_, cell_load ag3 hc0 rfl, ?_⟩)
    | (refine ⟨_, _, make26 (show n ≤ 7 by omega), ?_⟩)
    | fail
  generalize hs1 : Heap.new H0 _ = H1
  have hg1 := new_get hs1
  have k1 := new_keep hs1
  have n1 := new_n hs1
  rw [show H0.n = H.n + 1 by omega] at hg1 ⊢
  repeat' first
    | refine CO.cons rfl ?_
    | (refine ⟨_, _, al26, ?_⟩)
    | fail
  generalize hs2 : Heap.new H1 _ = H2
  have hg2 := new_get hs2
  have k2 := new_keep hs2
  have n2 := new_n hs2
  rw [show H1.n = H.n + 2 by omega] at hg2 ⊢
  repeat' first
    | fail
  refine ⟨_, _, var_store sz26 hg2 rfl, by omega, ?_⟩
  generalize hs3 : Heap.set H2 (H.n + 2) _ = H3
  have hg3 := set_get hs3
  have n3 := set_n hs3
  have o3 := set_old hs3
  repeat' first
    | refine CO.cons rfl ?_
    | refine CO.nil ?_
    | refine CV.seq ?_
    | refine CV.region callees ?_
    | (refine ⟨_, _, alG, ?_⟩)
    | fail
  generalize hs4 : Heap.new H3 _ = H4
  have hg4 := new_get hs4
  have k4 := new_keep hs4
  have n4 := new_n hs4
  rw [show H3.n = H.n + 3 by omega] at hg4 ⊢
  repeat' first
    | refine CO.cons rfl ?_
    | (refine ⟨(rfl : List.all _ cellLike = true), ?_⟩)
    | fail
  refine ⟨_, _, var_store szG hg4 rfl, by omega, ?_⟩
  generalize hs5 : Heap.set H4 (H.n + 3) _ = H5
  have hg5 : H5.get (H.n + 3) = some (.cells [fillV c H.n] gT 1) := set_get hs5
  have n5 := set_n hs5
  have o5 := set_old hs5
  have hM : Mine c H.n l n (List.replicate n 0) H5 := ⟨(o5 _ (by omega)).trans ((k4.2 _ (by omega)).trans ((o3 _ (by omega)).trans ((k2.2 _ (by omega)).trans ((k1.2 _ (by omega)).trans hg0)))), (o5 _ (by omega)).trans ((k4.2 _ (by omega)).trans ((o3 _ (by omega)).trans ((k2.2 _ (by omega)).trans hg1))), (o5 _ (by omega)).trans ((k4.2 _ (by omega)).trans hg3), hg5, by simp⟩
  have k05 : Keep H H5 := ⟨by omega, fun q hq => (o5 q (by omega)).trans ((k4.2 q (by omega)).trans ((o3 q (by omega)).trans ((k2.2 q (by omega)).trans ((k1.2 q (by omega)).trans (k0.2 q hq)))))⟩
  repeat' first
    | refine CO.cons rfl ?_
    | refine CO.nil ?_
    | refine CV.region callees ?_
    | (refine ⟨_, cell_load agG hg5 rfl, ?_⟩)
    | fail
  have hf := fillM_spec (B := B) (c := c) (b := H.n) (l := l) (n := n) (L := growM ds n []) J hB hn hds hcb hJc hJs hY n 0 [] (List.replicate n 0) [] H5 (by omega) rfl (by rw [List.nil_append]; exact List.prefix_refl _) (hJ0 H5 k05 (by omega)) hM (by simp) (by omega) (by omega)
  refine hf.mono ?_
  rintro v X2 ⟨rfl, hJ2, _, l2⟩
  repeat' first
    | refine CO.nil ?_
    | fail
  exact ⟨rfl, by rw [List.nil_append] at hJ2; exact hJ2, by omega⟩
end Go.Proofs.Ytlamceokhbigaaa

