
/- HearthChecks. -/
import Derived.Test.Ytglkphjjinmgmaaq7h
import Derived.Test.YtglkphjjinmgmaaWqh
import Derived.Test.YtglkphjjinmgmaaWxh
import Derived.Test.YtglkphjjinmgmaaWmh
set_option linter.unusedVariables false
set_option linter.unusedSimpArgs false
namespace Go.Proofs.Ytglkphjjinmgmaa
open Go.AI
theorem unFs : Try.prog.underlying 42 = some (.slice 25) := by kernel_rfl
theorem unKs : Try.prog.underlying 43 = some (.slice 29) := by kernel_rfl
theorem unPs : Try.prog.underlying 45 = some (.slice 30) := by kernel_rfl
theorem szPs : sizeB Try.prog 30 = some 1 := by kernel_rfl
theorem onePs : oneBB Try.prog 30 = some (.slice none 0 0, 24) := by kernel_rfl
theorem bu3F {H : Heap} {x1 y1 x2 y2 x3 y3 : Option Addr} {n1 m1 n2 m2 n3 m3 c1 d1 c2 d2 c3 d3 : Nat} : abuildSlice Try.prog H 42 3 [(0, Fv (.slice x1 n1 c1) (.slice y1 m1 d1)), (1, Fv (.slice x2 n2 c2) (.slice y2 m2 d2)), (2, Fv (.slice x3 n3 c3) (.slice y3 m3 d3))] =
    some (.slice (some ⟨H.n, 0, none⟩) 3 0, H.new (.cells [.slice x1 n1 c1, .slice y1 m1 d1, .slice x2 n2 c2, .slice y2 m2 d2, .slice x3 n3 c3, .slice y3 m3 d3] 25 2), H.n) := by kernel_rfl
theorem buFires {H : Heap} {X1 X2 X3 X4 X5 X6 : Heap} {s1 s2 s3 s4 s5 s6 : Nat} {r1 r2 r3 r4 r5 r6 : List (List Value)} {a b c d e f : Value} (h1 : RowS s1 X1 a r1) (h2 : RowS s2 X2 b r2) (h3 : RowS s3 X3 c r3) (h4 : RowS s4 X4 d r4) (h5 : RowS s5 X5 e r5) (h6 : RowS s6 X6 f r6) :
    abuildSlice Try.prog H 42 3 [(0, Fv a b), (1, Fv c d), (2, Fv e f)] = some (.slice (some ⟨H.n, 0, none⟩) 3 0, H.new (.cells [a, b, c, d, e, f] 25 2), H.n) := by
  obtain ⟨_, _, _, rfl⟩ := RowS.isl h1
  obtain ⟨_, _, _, rfl⟩ := RowS.isl h2
  obtain ⟨_, _, _, rfl⟩ := RowS.isl h3
  obtain ⟨_, _, _, rfl⟩ := RowS.isl h4
  obtain ⟨_, _, _, rfl⟩ := RowS.isl h5
  obtain ⟨_, _, _, rfl⟩ := RowS.isl h6
  exact bu3F
theorem bu3K {H : Heap} {p q r : Ke} : abuildSlice Try.prog H 43 3 [(0, Kev p), (1, Kev q), (2, Kev r)] =
    some (.slice (some ⟨H.n, 0, none⟩) 3 0, H.new (.cells (Kel p ++ Kel q ++ Kel r) 29 2), H.n) := by kernel_rfl
theorem bu3P {H : Heap} {x y z : Value} (hx : AI.oneC x = true) (hy : AI.oneC y = true) (hz : AI.oneC z = true) : abuildSlice Try.prog H 45 3 [(0, x), (1, y), (2, z)] = some (.slice (some ⟨H.n, 0, none⟩) 3 0, H.new (.cells [x, y, z] 30 2), H.n) :=
  build_vals [x, y, z] unPs onePs (by simp [hx, hy, hz]) (by simp)
theorem rows3 {s : Nat} {H H' : Heap} {e : TypeId} {a b c : List Value} (hs : H.new (.cells (a ++ b ++ c) e 2) = H') (ha : a.length = s) (hb : b.length = s) (hc : c.length = s) : RowS s H' (.slice (some ⟨H.n, 0, none⟩) 3 0) [a, b, c] := by
  have hfl : [a, b, c].flatten = a ++ b ++ c := by simp
  have hr : ∀ r ∈ [a, b, c], r.length = s := fun r hr => by
    simp only [List.mem_cons, List.not_mem_nil, or_false] at hr
    rcases hr with rfl | rfl | rfl <;> assumption
  refine ⟨hr, .inr (.inr ⟨H.n, 0, 0, _, _, 2, rfl, by have := new_n hs; omega, new_get hs, by decide, ?_, ?_⟩)⟩
  · show 0 + 3 * s ≤ _
    simp only [List.length_append]; omega
  · intro j q r w hj hq
    rw [← hfl, Nat.zero_add]
    exact flat_at hr hj hq
theorem fvS_same {e e' : TypeId} {s s' : Nat} {H H' : Heap} {u v : Value} {us vs : List (List Value)} {B B' : Nat} (h1 : OwnS e s H u us B) (h2 : OwnS e' s' H' v vs B') : sameFix (Fv u v) (Fv u v) = true := by
  rcases h1.2 with ⟨rfl, _⟩ | ⟨b, rfl, _⟩ <;> rcases h2.2 with ⟨rfl, _⟩ | ⟨c, rfl, _⟩ <;> simp [sameFix, sameFixL, sameFix1]
theorem own_apart2 {H : Heap} {v w : Value} {l : List Co} {m : List (Int × Int)} {B C : Nat} (h : OwnC H v l B) (h' : OwnT H w m C) : ∀ c, blkOf w = some c → blkOf v ≠ some c := by
  intro c h1 h2
  rcases h.2 with ⟨rfl, _⟩ | ⟨b, rfl, _, _, h4⟩
  · cases h2
  · rcases h'.2 with ⟨rfl, _⟩ | ⟨b', rfl, _, _, h5⟩
    · cases h1
    · have e1 : b = c := by simpa [blkOf] using h2
      have e2 : b' = c := by simpa [blkOf] using h1
      subst e1; subst e2
      rw [h4] at h5
      simp only [Option.some.injEq, AObj.cells.injEq] at h5
      exact absurd h5.2.1 (by decide)
theorem co_put {H : Heap} {K : Heap → Prop} {B B0 : Nat} {x : Value} {l : List Co} {j : Nat} {d : Co} (hx : OwnC H x l B0) (hB : B ≤ B0) (hj : j < l.length)
    (hk : ∀ H', OwnC H' x (l.set j d) B0 → KeepBut x H H' → K H') :
    ∃ H' b, astore Try.prog 32 H (Cov d) (elemS x 7 j) = some (H', b) ∧ B ≤ b ∧ K H' :=
  rstore_askS (row := Col d) sz48 hx hB (by rw [List.length_map]; exact hj) rfl rfl fun H' h1 h2 => hk H' (by rw [OwnC, List.map_set]; exact h1) h2
theorem ldCo {H : Heap} {b : Nat} {c : Co} {e : TypeId} {q : Nat} (hg : H.get b = some (.cells (Col c) e q)) : aload Try.prog 32 H (.pointer (some ⟨b, 0, none⟩)) = some (Cov c) := ld48 hg
set_option maxHeartbeats 64000000 in
set_option maxRecDepth 100000 in
theorem checksLaw_spec {cv0 tv0 pv0 v : Value} {H : Heap} {cs0 : List Co} {ts0 : List (Int × Int)} {ps0 : List Po} {ke : Ke} {mi : Int} {c : Co} {nums : List Int} (hc : RowS 7 H cv0 (cs0.map Col)) (ht : RowS 2 H tv0 (ts0.map Hl)) (hp : RowS 3 H pv0 (ps0.map Pol)) (hv : Ints H v nums) (hx : nums.length ≤ 9223372036854775807) :
    CallB Try.prog H.n 3 [Fv cv0 tv0, Kev ke, pv0, VJ mi, Cov c, v] H (fun r _ => r = .bool true) := by
  have hn : H.n ≤ H.n := Nat.le_refl _
  refine CV.enter callees false rfl Try.func3 rfl (by kernel_rfl) (Nat.le_of_ble_eq_true rfl) hn ?_
  repeat' first
    | refine CO.cons rfl ?_
    | refine CV.seq ?_
    | refine CV.region callees ?_
    | fail
  refine ⟨(by simp only [notTuple]), ?_⟩
  rw [allocFv hc.cells.1 ht.cells.1]
  generalize hs0 : Heap.new H _ = H0
  have hg0 := new_get hs0
  have k0 := new_keep hs0
  have n0 := new_n hs0
  obtain ⟨b0, hbn0⟩ : ∃ b, Heap.n H = b := ⟨_, rfl⟩
  rw [hbn0] at hg0 n0 ⊢
  repeat' first
    | refine CO.cons rfl ?_
    | fail
  refine ⟨(by simp only [notTuple]), ?_⟩
  rw [boxKe]
  generalize hs1 : Heap.new H0 _ = H1
  have hg1 := new_get hs1
  have k1 := new_keep hs1
  have n1 := new_n hs1
  obtain ⟨b1, hbn1⟩ : ∃ b, Heap.n H0 = b := ⟨_, rfl⟩
  rw [hbn1] at hg1 n1 ⊢
  repeat' first
    | refine CO.cons rfl ?_
    | fail
  refine ⟨(by simp only [notTuple]), ?_⟩
  rw [boxCo]
  generalize hs2 : Heap.new H1 _ = H2
  have hg2 := new_get hs2
  have k2 := new_keep hs2
  have n2 := new_n hs2
  obtain ⟨b2, hbn2⟩ : ∃ b, Heap.n H1 = b := ⟨_, rfl⟩
  rw [hbn2] at hg2 n2 ⊢
  have k02 := (k0.trans k1).trans k2
  have l02 := k02.1
  have hf2 := (k2.2 b0 (by omega)).trans ((k1.2 b0 (by omega)).trans hg0)
  have hk2 := (k2.2 b1 (by omega)).trans hg1
  repeat' first
    | refine CO.cons rfl ?_
    | refine CO.nil ?_
    | refine CV.seq ?_
    | refine CV.region callees ?_
    | (refine ⟨_, ld28 hf2, ?_⟩)
    | fail
  refine (much_spec (by omega) (hc.keep k02) (ht.keep k02) (hp.keep k02)).mono ?_
  rintro r H3 ⟨rfl | ⟨rfl, hcn, htn, hpn⟩, k3⟩
  · have l3 := k3.1
    repeat' first
      | refine CO.cons rfl ?_
      | refine CO.nil ?_
      | refine CV.seq ?_
      | refine CV.region callees ?_
      | refine CV.cond ?_
      | fail
    refine (awake_spec (by omega)).mono ?_
    rintro r I5 ⟨rfl, j5⟩
    repeat' first
      | refine CO.cons rfl ?_
      | refine CO.nil ?_
      | refine CV.ret ?_
      | fail
    exact ⟨rfl, rfl⟩
  have l3 := k3.1
  have k03 := k02.trans k3
  have hv3 : Ints H3 v nums := Row.keep hv k03
  repeat' first
    | refine CO.cons rfl ?_
    | refine CO.nil ?_
    | refine CV.seq ?_
    | refine CV.region callees ?_
    | refine CV.cond ?_
    | refine CV.skip ?_
    | fail
  refine (boxOf_spec (by omega) hv3 hx).mono ?_
  rintro r H4 ⟨⟨b, rfl, hb, hbox⟩, k4⟩
  have l4 := k4.1
  have hbn := hbox.1
  have k04 := k03.trans k4
  repeat' first
    | refine CO.cons rfl ?_
    | refine CO.nil ?_
    | refine CV.seq ?_
    | refine CV.region callees ?_
    | fail
  refine (fireOf_spec (by omega) (by omega) hbox (by omega) (by omega)).mono ?_
  rintro r H5 ⟨⟨cv, tv, cs, ts, rfl, hc5, ht5, hf, hcn10, hcs⟩, hb5, x5⟩
  have l5 := x5.1
  have hbn5 := hb5.1
  repeat' first
    | refine CO.cons rfl ?_
    | fail
  refine (kettleOf_spec (by omega) (by omega) hb5).mono ?_
  rintro r H6 ⟨⟨k, rfl, hk, hwa⟩, hb6, x6⟩
  have l6 := x6.1
  have hc6 : OwnC H6 cv cs _ := OwnS.boxed hc5 x6 hb5
  have ht6 : OwnT H6 tv ts _ := OwnS.boxed ht5 x6 hb5
  have hfvs := fvS_same hc6 ht6
  have htm := hf.m
  repeat' first
    | refine CO.cons rfl ?_
    | (refine ⟨_, _, al28, ?_⟩)
    | fail
  generalize hsa : Heap.new H6 _ = Ha
  have hga := new_get hsa
  have ka := new_keep hsa
  have na := new_n hsa
  obtain ⟨ba, hbna⟩ : ∃ b, Heap.n H6 = b := ⟨_, rfl⟩
  rw [hbna] at hga na ⊢
  repeat' first
    | refine CO.cons rfl ?_
    | (refine ⟨_, _, al51, ?_⟩)
    | fail
  generalize hsd : Heap.new Ha _ = Hd
  have hgd := new_get hsd
  have kd := new_keep hsd
  have nd := new_n hsd
  obtain ⟨bd, hbnd⟩ : ∃ b, Heap.n Ha = b := ⟨_, rfl⟩
  rw [hbnd] at hgd nd ⊢
  have hga0 := (kd.2 ba (by omega)).trans hga
  repeat' first
    | fail
  refine ⟨_, _, st28 hc6.oneC ht6.oneC hga0, by omega, ?_⟩
  generalize hse : Heap.set Hd ba _ = He
  have hge : He.get ba = some (.cells (Fl cv tv) 25 1) := set_get hse
  have ne := set_n hse
  have oe := set_old hse
  have hgd1 := (oe bd (by omega)).trans hgd
  repeat' first
    | refine CO.cons rfl ?_
    | fail
  refine ⟨_, _, st51 hgd1, by omega, ?_⟩
  generalize hs7 : Heap.set He bd _ = H7
  have hg7 : H7.get bd = some (.cells (Kel k) 29 1) := set_get hs7
  have n7 := set_n hs7
  have o7 := set_old hs7
  have hf7 := (o7 ba (by omega)).trans hge
  have k67 : Keep H6 H7 := keep_put (keep_put (ka.trans kd) (by omega) oe ne) (by omega) o7 n7
  have l7 := k67.1
  have hb7 := hb6.keep k67
  have hb7n := hb7.1
  have hc7 : OwnC H7 cv cs _ := OwnS.keep hc6 k67
  have ht7 : OwnT H7 tv ts _ := OwnS.keep ht6 k67
  have x47 : KeepX b H4 H7 := (x5.trans x6).trans (k67.butX b)
  have rb : ∀ {s : Nat} {w : Value} {rs : List (List Value)}, RowS s H4 w rs → RowS s H7 w rs := fun h => by obtain ⟨_, w, hw⟩ := hbox; exact h.keepX x47 hw
  have hc07 := rb (hc.keep k04)
  have ht07 := rb (ht.keep k04)
  have hp07 := rb (hp.keep k04)
  have k34 : Keep H2 H4 := k3.trans k4
  have hf07 := (x47.2 b0 (by omega) (by omega)).trans ((k34.2 b0 (by omega)).trans hf2)
  have hk07 := (x47.2 b1 (by omega) (by omega)).trans ((k34.2 b1 (by omega)).trans hk2)
  have hq07 := (x47.2 b2 (by omega) (by omega)).trans ((k34.2 b2 (by omega)).trans hg2)
  repeat' first
    | refine CO.nil ?_
    | fail
  refine CV.seq ?_
  refine CV.midK (α := List Co) (fun l => [(2, pv0), (3, VJ mi), (6, .pointer (some ⟨b0, 0, none⟩)), (7, .pointer (some ⟨b1, 0, none⟩)), (13, bp b), (14, .pointer (some ⟨ba, 0, none⟩)), (15, .pointer (some ⟨bd, 0, none⟩))]) (fun l Hz => l.length = cs.length ∧ H7.n ≤ Hz.n ∧ RowS 7 Hz cv (l.map Col) ∧ RowS 2 Hz tv (ts.map Hl) ∧ RowS 7 Hz cv0 (cs0.map Col) ∧ RowS 2 Hz tv0 (ts0.map Hl) ∧ RowS 3 Hz pv0 (ps0.map Pol) ∧ Hz.get b0 = some (.cells (Fl cv0 tv0) 25 1) ∧ Hz.get b1 = some (.cells (Kel ke) 29 1) ∧ Hz.get ba = some (.cells (Fl cv tv) 25 1) ∧ Hz.get bd = some (.cells (Kel k) 29 1) ∧ Box b Hz) ?_ ?_
  · by_cases h0 : 0 < cs.length
    rotate_left
    · repeat' first
        | refine CO.cons rfl ?_
        | refine CO.nil ?_
        | refine CV.seq ?_
        | refine CV.region callees ?_
        | refine CV.cond ?_
        | refine CV.skip ?_
        | refine CO.consG rfl ?_
        | (refine ⟨_, fS foF0 (by decide), ?_⟩)
        | (refine ⟨_, cell_load ag25 hf7 rfl, ?_⟩)
        | (refine ⟨_, cs_len hc7.row, ?_⟩)
        | (refine ⟨fun _ => ?_, fun _ => ?_⟩ <;> first | (exfalso; omega) | skip)
        | fail
      refine ⟨(cs), (by repeat' first | exact trivial | refine ⟨rfl, ?_⟩), ?_⟩
      exact ⟨rfl, Nat.le_refl _, hc7.row, ht7.row, hc07, ht07, hp07, hf07, hk07, hf7, hg7, hb7⟩
    repeat' first
      | refine CO.cons rfl ?_
      | refine CV.seq ?_
      | refine CV.region callees ?_
      | refine CO.consG rfl ?_
      | (refine ⟨_, fS foF0 (by decide), ?_⟩)
      | (refine ⟨_, cell_load ag25 hf7 rfl, ?_⟩)
      | (refine ⟨_, cs_len hc7.row, ?_⟩)
      | (refine ⟨fun _ => ?_, fun _ => ?_⟩ <;> first | (exfalso; omega) | skip)
      | fail
    refine (one_spec (by omega) (by omega) hb7 (by omega)).mono ?_
    rintro r H8 ⟨⟨x, rfl⟩, hb8, x8⟩
    have l8 := x8.1
    have hb8n := hb8.1
    have hc8 : OwnC H8 cv cs _ := OwnS.boxed hc7 x8 hb7
    have ht8 : OwnT H8 tv ts _ := OwnS.boxed ht7 x8 hb7
    have rb8 : ∀ {s : Nat} {w : Value} {rs : List (List Value)}, RowS s H7 w rs → RowS s H8 w rs := fun h => by obtain ⟨_, w, hw⟩ := hb7; exact h.keepX x8 hw
    have g8 : ∀ {c : Nat}, c < H7.n → c ≠ b → H8.get c = H7.get c := fun h h' => x8.2 _ h h'
    cases x
    · repeat' first
        | refine CO.cons rfl ?_
        | refine CO.nil ?_
        | refine CV.cond ?_
        | refine CV.skip ?_
        | fail
      refine ⟨(cs), (by repeat' first | exact trivial | refine ⟨rfl, ?_⟩), ?_⟩
      exact ⟨rfl, by omega, hc8.row, ht8.row, rb8 hc07, rb8 ht07, rb8 hp07, (g8 (by omega) (by omega)).trans hf07, (g8 (by omega) (by omega)).trans hk07, (g8 (by omega) (by omega)).trans hf7, (g8 (by omega) (by omega)).trans hg7, hb8⟩
    have hf8 := (g8 (by omega) (by omega)).trans hf7
    have hq8 := (g8 (by omega) (by omega)).trans hq07
    repeat' first
      | refine CO.cons rfl ?_
      | refine CO.nil ?_
      | refine CV.cond ?_
      | refine CR.cons (es := []) ?_
      | refine CV.mX callees (by decide +kernel) [(0, []), (1, []), (2, []), (3, []), (4, []), (5, []), (7, []), (6, [7, 1]), (8, []), (9, [])] (by kernel_rfl) ?_
      | (refine ⟨_, fS foF0 (by decide), ?_⟩)
      | (refine ⟨_, cell_load ag25 hf8 rfl, ?_⟩)
      | (refine ⟨_, cs_len hc8.row, ?_⟩)
      | (refine ⟨_, ldCo hq8, ?_⟩)
      | fail
    refine CR.callL b (by omega) ?_
    refine (up_spec (Nat.le_refl _) (by omega) hb8 (by omega)).mono ?_
    rintro r H9 ⟨⟨y, rfl, y0, y1⟩, hb9, x9⟩
    have l9 := x9.1
    have hb9n := hb9.1
    have hc9 : OwnC H9 cv cs _ := OwnS.boxed hc8 x9 hb8
    have ht9 : OwnT H9 tv ts _ := OwnS.boxed ht8 x9 hb8
    have rb9 : ∀ {s : Nat} {w : Value} {rs : List (List Value)}, RowS s H7 w rs → RowS s H9 w rs := fun h => by obtain ⟨_, w, hw⟩ := hb7; exact h.keepX (x8.trans x9) hw
    have g9 : ∀ {c : Nat}, c < H7.n → c ≠ b → H9.get c = H7.get c := fun h h' => (x8.trans x9).2 _ h h'
    have hf9 := (g9 (by omega) (by omega)).trans hf7
    repeat' first
      | fail
    refine .inr ⟨by omega, _, ldCo hq8, ?_⟩
    refine .inl ⟨_, cell_load ag25 hf9 rfl, rfl, OwnS.same hc9, ?_⟩
    obtain ⟨z, rfl⟩ : ∃ z : Nat, y = (z : Int) := ⟨y.toNat, by omega⟩
    repeat' first
      | refine CR.cons (es := []) ?_
      | (refine ⟨_, cs_addr hc9.row (by omega) (by omega), ?_⟩)
      | fail
    refine co_put (d := c) hc9 (by omega) (by omega) ?_
    intro HA hcA kbA
    have lA := kbA.le
    have hcb : ∀ x, blkOf cv = some x → H4.n ≤ x ∧ x < H5.n := fun x hx => hc5.lt hx
    have gA : ∀ {x : Nat}, x < H7.n → x ≠ b → blkOf cv ≠ some x → HA.get x = H7.get x := fun h h1 h2 => (kbA.get _ (by omega) h2).trans (g9 h h1)
    have hne : ∀ {x : Nat}, x < H4.n ∨ H5.n ≤ x → blkOf cv ≠ some x := fun h e => by have := hcb _ e; omega
    have k4A : ∀ x, x < H4.n → x ≠ b → HA.get x = H4.get x := fun x h h1 => (gA (by omega) h1 (hne (.inl h))).trans (x47.2 x h h1)
    have rbA : ∀ {s : Nat} {w : Value} {rs : List (List Value)}, RowS s H4 w rs → RowS s HA w rs := fun h => by obtain ⟨_, w, hw⟩ := hbox; exact h.keepX ⟨by omega, k4A⟩ hw
    repeat' first
      | refine CR.nil ?_
      | fail
    refine ⟨(cs.set z c), (by repeat' first | exact trivial | refine ⟨rfl, ?_⟩), ?_⟩
    exact ⟨List.length_set, by omega, hcA.row, OwnS.row (ownS_keepBt ht9 kbA (own_apart2 hc5 ht5)), rbA (hc.keep k04), rbA (ht.keep k04), rbA (hp.keep k04), (gA (by omega) (by omega) (hne (.inl (by omega)))).trans hf07, (gA (by omega) (by omega) (hne (.inl (by omega)))).trans hk07, (gA (by omega) (by omega) (hne (.inr (by omega)))).trans hf7, (gA (by omega) (by omega) (hne (.inr (by omega)))).trans hg7, hb9.keepBut kbA (hne (.inl (by omega)))⟩
  rintro l HA ⟨hll, lA, hcA, htA, hc0A, ht0A, hp0A, hf0A, hk0A, hfA, hkA, hbA⟩ hBA
  clear hc7 ht7 hc07 ht07 hp07 hf07 hk07 hq07 hf7 hg7 hb7 hc5 ht5 hc6 ht6 hb5 hb6 rb x47 hga0 hgd1 hge hgd hga
  have hbAn := hbA.1
  repeat' first
    | refine CV.seq ?_
    | refine CR.cons (es := []) ?_
    | refine CV.mX callees (by decide +kernel) [(0, []), (1, []), (2, []), (4, []), (5, []), (6, []), (8, []), (9, []), (10, []), (12, []), (14, []), (15, []), (17, []), (11, [6, 5, 4, 2, 1, 0]), (16, [6, 5, 4, 2, 1, 0]), (3, [6, 5, 4]), (19, [6, 5, 4]), (7, []), (20, []), (13, []), (21, []), (18, []), (22, [])] (by kernel_rfl) ?_
    | (refine ⟨_, ld28 hf0A, ?_⟩)
    | (refine ⟨_, ld28 hfA, ?_⟩)
    | (refine ⟨_, ld51 hk0A, ?_⟩)
    | (refine ⟨_, ld51 hkA, ?_⟩)
    | fail
  refine CR.callL b (by omega) ?_
  refine (poursOf_spec (by omega) (by omega) hbA hk (by omega) (by omega) (by omega) (by omega)).mono ?_
  rintro pv HB ⟨⟨ps, hpB, hpo, hpn6⟩, hbB, xB⟩
  have lB := xB.1
  have hbBn := hbB.1
  have hfB := (xB.2 ba (by omega) (by omega)).trans hfA
  have hkB := (xB.2 bd (by omega) (by omega)).trans hkA
  have hf0B := (xB.2 b0 (by omega) (by omega)).trans hf0A
  have hk0B := (xB.2 b1 (by omega) (by omega)).trans hk0A
  refine .inl ⟨_, ld51 hkB, rfl, same_ke, ?_⟩
  refine .inl ⟨_, ld51 hkB, rfl, same_ke, ?_⟩
  refine .inr ⟨by omega, _, ld51 hk0A, ?_⟩
  refine .inl ⟨_, ld28 hfB, rfl, hfvs, ?_⟩
  refine .inl ⟨_, ld28 hfB, rfl, hfvs, ?_⟩
  refine .inr ⟨by omega, _, ld28 hf0A, ?_⟩
  repeat' first
    | fail
  refine CR.callL b (by omega) ?_
  refine (up_spec (by omega) (by omega) hbB (by omega)).mono ?_
  rintro r HC ⟨⟨mx, rfl, mx0, mx1⟩, hbC, xC⟩
  have lC := xC.1
  have hfC := (xC.2 ba (by omega) (by omega)).trans hfB
  have hkC := (xC.2 bd (by omega) (by omega)).trans hkB
  have hf0C := (xC.2 b0 (by omega) (by omega)).trans hf0B
  have hk0C := (xC.2 b1 (by omega) (by omega)).trans hk0B
  refine .inl ⟨_, ld51 hkC, rfl, same_ke, ?_⟩
  refine .inl ⟨_, ld51 hkC, rfl, same_ke, ?_⟩
  refine .inr ⟨by omega, _, ld51 hk0B, ?_⟩
  refine .inl ⟨_, ld28 hfC, rfl, hfvs, ?_⟩
  refine .inl ⟨_, ld28 hfC, rfl, hfvs, ?_⟩
  refine .inr ⟨by omega, _, ld28 hf0B, ?_⟩
  have xAC : KeepX b HA HC := xB.trans xC
  have rbC : ∀ {s : Nat} {w : Value} {rs : List (List Value)}, RowS s HA w rs → RowS s HC w rs := fun h => by obtain ⟨_, w, hw⟩ := hbA; exact h.keepX xAC hw
  have hpC : OwnO HC pv ps HA.n := OwnS.boxed hpB xC hbB
  have hc1C := rbC hcA
  have ht1C := rbC htA
  have hc0C := rbC hc0A
  have ht0C := rbC ht0A
  have hp0C := rbC hp0A
  have hbF : ∀ X : Heap, abuildSlice Try.prog X 42 3 [(0, Fv cv0 tv0), (1, Fv cv tv), (2, Fv cv tv)] = some (.slice (some ⟨X.n, 0, none⟩) 3 0, X.new (.cells ([cv0, tv0] ++ [cv, tv] ++ [cv, tv]) 25 2), X.n) := fun X => buFires hc0C ht0C hc1C ht1C hc1C ht1C
  repeat' first
    | fail
  refine CR.opL HC.n (by omega) (Nat.le_refl _) ?_
  refine ⟨_, _, hbF _, ?_⟩
  refine .inr ⟨by omega, _, ld51 hkC, ?_⟩
  refine .inr ⟨by omega, _, ld51 hkC, ?_⟩
  refine .inr ⟨by omega, _, ld51 hk0C, ?_⟩
  generalize hsD : Heap.new HC _ = HD
  have kD := new_keep hsD
  have nD := new_n hsD
  have hFD : RowS 2 HD (.slice (some ⟨HC.n, 0, none⟩) 3 0) [[cv0, tv0], [cv, tv], [cv, tv]] := rows3 hsD rfl rfl rfl
  have hkD := (kD.2 bd (by omega)).trans hkC
  have hk0D := (kD.2 b1 (by omega)).trans hk0C
  generalize Value.slice (some ⟨HC.n, 0, none⟩) 3 0 = FS at hFD ⊢
  refine CR.opL HC.n (by omega) (by omega) ?_
  first | refine ⟨rfl, ?_⟩ | refine ⟨(rfl : plain _ = true), ?_⟩ | skip
  refine .inr ⟨by omega, _, ld51 hkD, ?_⟩
  refine .inr ⟨by omega, _, ld51 hkD, ?_⟩
  refine .inr ⟨by omega, _, ld51 hk0D, ?_⟩
  repeat' first
    | refine CR.cons (es := []) ?_
    | (refine ⟨_, _, bu3K, ?_⟩)
    | fail
  generalize hsE : Heap.new HD _ = HE
  have kE := new_keep hsE
  have nE := new_n hsE
  have hKE : RowS 8 HE (.slice (some ⟨HD.n, 0, none⟩) 3 0) [Kel ke, Kel k, Kel k] := rows3 hsE rfl rfl rfl
  generalize Value.slice (some ⟨HD.n, 0, none⟩) 3 0 = KS at hKE ⊢
  have op0 := hp0C.cells.2.1
  have op1 := OwnS.oneC hpC
  repeat' first
    | refine CR.cons (es := []) ?_
    | (refine ⟨_, _, bu3P op0 op1 op0, ?_⟩)
    | fail
  generalize hsG : Heap.new HE _ = HG
  have kG := new_keep hsG
  have nG := new_n hsG
  have hPG : Row HG (.slice (some ⟨HE.n, 0, none⟩) 3 0) [pv0, pv, pv0] := by rw [← hsG]; exact new_row rfl
  generalize Value.slice (some ⟨HE.n, 0, none⟩) 3 0 = PS at hPG ⊢
  repeat' first
    | refine CO.cons rfl ?_
    | refine CO.nil ?_
    | refine CV.seq ?_
    | refine CV.region callees ?_
    | refine CV.block ?_
    | refine CR.cons (es := []) ?_
    | refine CR.nil ?_
    | (refine ⟨_, _, build_3, ?_⟩)
    | fail
  generalize hsI : Heap.new HG _ = HI
  have kI := new_keep hsI
  have nI := new_n hsI
  have hMI : Ints HI (.slice (some ⟨HG.n, 0, none⟩) 3 0) [mi, mx, mi] := by rw [← hsI]; exact new_row rfl
  generalize Value.slice (some ⟨HG.n, 0, none⟩) 3 0 = MS at hMI ⊢
  have kCI := ((kD.trans kE).trans kG).trans kI
  have hFI := ((hFD.keep kE).keep kG).keep kI
  have hKI := (hKE.keep kG).keep kI
  have hPI := Row.keep hPG kI
  have hall : ∀ i : Nat, i < 3 → ∃ (cv' tv' : Value) (cs' : List Co) (ts' : List (Int × Int)) (k' : Ke) (pv' : Value) (ps' : List Po) (m' : Int),
      ([[cv0, tv0], [cv, tv], [cv, tv]] : List (List Value))[i]? = some [cv', tv'] ∧ ([Kel ke, Kel k, Kel k] : List (List Value))[i]? = some (Kel k') ∧ ([pv0, pv, pv0] : List Value)[i]? = some pv' ∧ ([mi, mx, mi] : List Int)[i]! = m' ∧ RowS 7 HI cv' (cs'.map Col) ∧ RowS 2 HI tv' (ts'.map Hl) ∧ RowS 3 HI pv' (ps'.map Pol) ∧ cs'.length ≤ 100 ∧ ts'.length ≤ 100 ∧ ps'.length ≤ 100 := fun i hi => by
    rcases (by omega : i = 0 ∨ i = 1 ∨ i = 2) with rfl | rfl | rfl
    · exact ⟨cv0, tv0, cs0, ts0, ke, pv0, ps0, mi, rfl, rfl, rfl, rfl, hc0C.keep kCI, ht0C.keep kCI, hp0C.keep kCI, by omega, by omega, by omega⟩
    · exact ⟨cv, tv, l, ts, k, pv, ps, mx, rfl, rfl, rfl, rfl, hc1C.keep kCI, ht1C.keep kCI, (OwnS.row hpC).keep kCI, by omega, by omega, by omega⟩
    · exact ⟨cv, tv, l, ts, k, pv0, ps0, mi, rfl, rfl, rfl, rfl, hc1C.keep kCI, ht1C.keep kCI, hp0C.keep kCI, by omega, by omega, by omega⟩
  have lI := kCI.1
  clear hfB hkB hf0B hk0B hfC hkC hf0C hk0C hcA htA hc0A ht0A hp0A hf0A hk0A hfA hkA hbA hbB hbC xB xC xAC rbC hpB hpC hc1C ht1C hc0C ht0C hp0C hbF hkD hk0D hFD hKE hPG
  repeat' first
    | fail
  refine CV.loopc ?_
  refine WCv.rounds callees false (α := Nat) (fun i => [(16, FS), (17, KS), (18, PS), (19, MS), (20, VJ i)]) (fun i Hz => i ≤ 3 ∧ Keep HI Hz) (fun i => 3 - i) (0) (by repeat' first | exact trivial | refine ⟨rfl, ?_⟩ | refine ⟨slot_int (by (try simp only [Int.toNat_natCast]); omega), ?_⟩) ?_ ?_
  · exact ⟨by omega, Keep.refl _⟩
  rintro i Hx ⟨hi, kx⟩ hBx
  have lx := kx.1
  have hlenS : alen Try.prog Hx 42 FS = some (.int .i64 3) := (hFI.keep kx).alen unFs
  by_cases hi2 : i < 3
  · obtain ⟨cv', tv', cs', ts', k', pv', ps', m', e1, e2, e3, e4, f1, f2, f3, f4, f5, f6⟩ := hall i hi2
    have aF : aindexAddr Try.prog 42 FS (VJ i) = some (elemS FS 2 i) := (hFI.keep kx).addr unFs sz28 (by omega) (by show (i : Int) < (3 : Nat); omega)
    have aK : aindexAddr Try.prog 43 KS (VJ i) = some (elemS KS 8 i) := (hKI.keep kx).addr unKs sz51h (by omega) (by show (i : Int) < (3 : Nat); omega)
    have aP : aindexAddr Try.prog 45 PS (VJ i) = some (elemAt PS i) := (Row.keep hPI kx).addr unPs szPs (by omega) (by show (i : Int) < (3 : Nat); omega)
    have aM : aindexAddr Try.prog 33 MS (VJ i) = some (elemAt MS i) := ints_addr (show Ints Hx MS [mi, mx, mi] from Row.keep hMI kx) (by omega) (by show (i : Int) < (3 : Nat); omega)
    have lF : ∀ X, Keep HI X → aload Try.prog 25 X (elemS FS 2 i) = some (Fv cv' tv') := fun X k => (hFI.keep k).load ag28 sz28 e1
    have lK : ∀ X, Keep HI X → aload Try.prog 29 X (elemS KS 8 i) = some (Kev k') := fun X k => (hKI.keep k).load ag51h sz51h e2
    have lP : ∀ X, Keep HI X → aload Try.prog 30 X (elemAt PS i) = some pv' := fun X k => (Row.keep hPI k).load ag53 e3
    have lM : ∀ X, Keep HI X → aload Try.prog 3 X (elemAt MS i) = some (VJ m') := fun X k => by
      have h : Ints X MS [mi, mx, mi] := Row.keep hMI k
      have h2 : aload Try.prog 3 X (elemAt MS i) = some (VJ ([mi, mx, mi] : List Int)[i]!) := ints_load h (i := (i : Int)) (by omega) (by show (i : Int) < (3 : Nat); omega)
      rwa [e4] at h2
    obtain ⟨L, hL, hLl⟩ := begQ_ex cs' ts'
    obtain ⟨hx', he', hH⟩ := heatQ_ex cs' ts' m'
    repeat' first
      | refine CO.cons rfl ?_
      | refine CO.nil ?_
      | refine CV.seq ?_
      | refine CV.region callees ?_
      | refine CV.cond ?_
      | refine CV.block ?_
      | refine CV.skip ?_
      | refine CR.cons (es := []) ?_
      | refine CR.call ?_
      | refine CV.al callees (by decide +kernel) 10 [(0, []), (1, []), (2, []), (3, []), (5, []), (6, []), (7, []), (8, []), (4, [8]), (9, []), (10, []), (11, []), (12, [])] (by kernel_rfl) rfl al28 ?_
      | (refine ⟨_, hlenS, ?_⟩)
      | (refine ⟨_, aF, ?_⟩)
      | (refine ⟨_, lF _ kx, ?_⟩)
      | (refine ⟨_, aP, ?_⟩)
      | (refine ⟨_, lP _ kx, ?_⟩)
      | (refine ⟨fun _ => ?_, fun _ => ?_⟩ <;> first | (exfalso; omega) | skip)
      | fail
    refine (ownFireQ_spec (Nat.le_refl _) (f1.keep kx) (f2.keep kx) f4 f5).mono ?_
    rintro r I1 ⟨⟨cw, tw, rfl, ho1, ho2⟩, i1⟩
    have li1 := i1.1
    repeat' first
      | refine CR.cons (es := []) ?_
      | fail
    refine (ownPoursQ_spec (by omega) ((f3.keep kx).keep i1) f6).mono ?_
    rintro pw I2 ⟨ho3, i2⟩
    have li2 := i2.1
    repeat' first
      | refine CR.cons (es := []) ?_
      | (refine ⟨_, _, al28, ?_⟩)
      | fail
    generalize hsm : Heap.new I2 _ = Hm
    have hgm := new_get hsm
    have km := new_keep hsm
    have nm := new_n hsm
    obtain ⟨bm, hbnm⟩ : ∃ b, Heap.n I2 = b := ⟨_, rfl⟩
    rw [hbnm] at hgm nm ⊢
    have ho1m : OwnC Hm cw cs' _ := OwnS.keep (OwnS.keep ho1 i2) km
    have ho2m : OwnT Hm tw ts' _ := OwnS.keep (OwnS.keep ho2 i2) km
    repeat' first
      | fail
    refine ⟨_, _, st28 (OwnS.oneC ho1m) (OwnS.oneC ho2m) hgm, by omega, ?_⟩
    generalize hsw : Heap.set Hm bm _ = Hw
    have hgw : Hw.get bm = some (.cells (Fl cw tw) 25 1) := set_get hsw
    have nw := set_n hsw
    have ow := set_old hsw
    have kmw : Keep I2 Hw := keep_put km (by omega) ow nw
    have kw : Keep HI Hw := ((kx.trans i1).trans i2).trans kmw
    have lw := kw.1
    have g1 := (OwnS.row ho1).keep (i2.trans kmw)
    have g2 := (OwnS.row ho2).keep (i2.trans kmw)
    have g3 := (OwnS.row ho3).keep kmw
    clear ho1 ho2 ho3 ho1m ho2m hgm
    repeat' first
      | refine CO.cons rfl ?_
      | refine CV.seq ?_
      | refine CV.region callees ?_
      | refine CR.cons ?_
      | refine CR.nil ?_
      | (refine ⟨_, ld28 hgw, ?_⟩)
      | fail
    refine (beginsQ_spec (by omega) g1 g2 f4 f5 hL).mono ?_
    rintro r J1 ⟨⟨q1, rfl, hq1⟩, j1⟩
    have lj1 := j1.1
    have w1 := kw.trans j1
    repeat' first
      | refine CO.cons rfl ?_
      | refine CO.nil ?_
      | refine CV.seq ?_
      | refine CV.region callees ?_
      | (refine ⟨_, aF, ?_⟩)
      | (refine ⟨_, lF _ w1, ?_⟩)
      | fail
    refine (beginsR_spec (by omega) (f1.keep w1) (f2.keep w1) f4 f5 hL).mono ?_
    rintro r J2 ⟨⟨q2, rfl, hq2⟩, j2⟩
    have lj2 := j2.1
    have w2 := w1.trans j2
    have j12 := j1.trans j2
    have hS2 := (j12.2 bm (by omega)).trans hgw
    repeat' first
      | refine CO.cons rfl ?_
      | refine CO.nil ?_
      | refine CV.seq ?_
      | refine CR.cons (es := []) ?_
      | refine ⟨_, ints_addr (by assumption) (by omega) (by omega), ?_⟩
      | refine CV.al callees (by decide +kernel) 9 [(0, []), (1, []), (2, []), (3, []), (4, []), (5, []), (6, []), (7, []), (8, []), (9, []), (10, []), (11, [])] (by kernel_rfl) rfl al41 ?_
      | (refine ⟨_, ld28 hS2, ?_⟩)
      | (refine ⟨_, lM _ w2, ?_⟩)
      | fail
    refine (heatQ_spec (by omega) (g1.keep j12) (g2.keep j12) f4 f5 hH).mono ?_
    rintro r J3 ⟨rfl, j3⟩
    have lj3 := j3.1
    repeat' first
      | refine CR.cons (es := []) ?_
      | (refine ⟨_, _, al41, ?_⟩)
      | fail
    generalize hss : Heap.new J3 _ = Hs
    have hgs := new_get hss
    have ks := new_keep hss
    have ns := new_n hss
    obtain ⟨bs, hbns⟩ : ∃ b, Heap.n J3 = b := ⟨_, rfl⟩
    rw [hbns] at hgs ns ⊢
    repeat' first
      | fail
    refine ⟨_, _, st41 hgs, by omega, ?_⟩
    generalize hst : Heap.set Hs bs _ = Ht
    have hgt : Ht.get bs = some (.cells (Hl hx') 27 1) := set_get hst
    have nt := set_n hst
    have ot := set_old hst
    have k3t : Keep J3 Ht := keep_put ks (by omega) ot nt
    have lt3 := k3t.1
    have w3 : Keep HI Ht := (w2.trans j3).trans k3t
    repeat' first
      | refine CV.seq ?_
      | refine CR.cons (es := []) ?_
      | refine CR.nil ?_
      | refine ⟨_, ints_addr (by assumption) (by omega) (by omega), ?_⟩
      | refine CV.al callees (by decide +kernel) 12 [(0, []), (1, []), (2, []), (3, []), (4, []), (5, []), (6, []), (7, []), (8, []), (9, []), (10, []), (11, []), (12, []), (13, []), (14, [])] (by kernel_rfl) rfl al41 ?_
      | (refine ⟨_, aF, ?_⟩)
      | (refine ⟨_, lF _ w3, ?_⟩)
      | (refine ⟨_, lM _ w3, ?_⟩)
      | fail
    refine (heatR_spec (by omega) (f1.keep w3) (f2.keep w3) f4 f5 hH).mono ?_
    rintro r J4 ⟨rfl, j4⟩
    have lj4 := j4.1
    repeat' first
      | refine CR.cons (es := []) ?_
      | (refine ⟨_, _, al41, ?_⟩)
      | fail
    generalize hsu : Heap.new J4 _ = Hu
    have hgu := new_get hsu
    have ku := new_keep hsu
    have nu := new_n hsu
    obtain ⟨bu, hbnu⟩ : ∃ b, Heap.n J4 = b := ⟨_, rfl⟩
    rw [hbnu] at hgu nu ⊢
    repeat' first
      | fail
    refine ⟨_, _, st41 hgu, by omega, ?_⟩
    generalize hsy : Heap.set Hu bu _ = Hy
    have hgy : Hy.get bu = some (.cells (Hl hx') 27 1) := set_get hsy
    have ny := set_n hsy
    have oy := set_old hsy
    have k4y : Keep J4 Hy := keep_put ku (by omega) oy ny
    have ly4 := k4y.1
    have jty : Keep Ht Hy := j4.trans k4y
    have w4 : Keep HI Hy := w3.trans jty
    have jwy : Keep Hw Hy := ((j12.trans j3).trans k3t).trans jty
    have hSy := (jwy.2 bm (by omega)).trans hgw
    have hsp1 := (jty.2 bs (by omega)).trans hgt
    have g1y := g1.keep jwy
    have g2y := g2.keep jwy
    have g3y := g3.keep jwy
    have r1y := hq1.keep (j2.trans ((j3.trans k3t).trans jty))
    have r2y := hq2.keep ((j3.trans k3t).trans jty)
    clear hq1 hq2 hgs hgu hS2 hgw hgt g1 g2 g3
    repeat' first
      | refine CV.seq ?_
      | refine CR.cons (es := []) ?_
      | refine CR.call ?_
      | refine CR.nil ?_
      | refine CV.mX callees (by decide +kernel) [(0, []), (2, []), (3, []), (4, []), (5, []), (1, [5]), (6, []), (7, []), (8, []), (9, []), (10, []), (11, []), (12, []), (14, []), (15, []), (16, []), (17, []), (13, [17, 16, 15, 14]), (18, []), (19, []), (20, []), (21, []), (22, []), (23, []), (24, []), (25, []), (26, []), (28, []), (29, []), (30, []), (31, []), (32, []), (33, []), (34, []), (35, []), (27, [35, 34, 33, 32, 31, 30, 29, 28]), (36, []), (37, []), (38, [])] (by kernel_rfl) ?_
      | (refine ⟨_, ld28 hSy, ?_⟩)
      | (refine ⟨_, aF, ?_⟩)
      | (refine ⟨_, lF _ w4, ?_⟩)
      | fail
    refine (check_spec (Nat.le_refl _) g1y g2y f4 f5).mono ?_
    obtain ⟨E1, hE1⟩ : ∃ x, fiE cs' ts' = x := ⟨_, rfl⟩
    rw [hE1]
    rintro r K1 ⟨rfl, m1⟩
    have lm1 := m1.1
    have w5 := w4.trans m1
    repeat' first
      | refine CR.cons (es := []) ?_
      | fail
    refine (checkR_spec (by omega) (f1.keep w5) (f2.keep w5) f4 f5).mono ?_
    rw [hE1]
    rintro r K2 ⟨rfl, m2⟩
    have lm2 := m2.1
    have w6 := w5.trans m2
    repeat' first
      | refine CR.cons (es := []) ?_
      | refine CR.call ?_
      | (refine ⟨_, aK, ?_⟩)
      | (refine ⟨_, lK _ w6, ?_⟩)
      | (refine ⟨fun _ => ?_, fun _ => ?_⟩ <;> first | (exfalso; omega) | skip)
      | fail
    refine (checkKettle_spec (by omega)).mono ?_
    obtain ⟨E2, hE2⟩ : ∃ x, keE k' = x := ⟨_, rfl⟩
    rw [hE2]
    rintro r K3 ⟨rfl, m3⟩
    have lm3 := m3.1
    have w7 := w6.trans m3
    repeat' first
      | refine CR.cons (es := []) ?_
      | fail
    refine (checkKettleR_spec (by omega)).mono ?_
    rw [hE2]
    rintro r K4 ⟨rfl, m4⟩
    have lm4 := m4.1
    have w8 := w7.trans m4
    have m14 := (m1.trans m2).trans (m3.trans m4)
    repeat' first
      | refine CR.cons (es := []) ?_
      | refine CR.call ?_
      | (refine ⟨_, aK, ?_⟩)
      | (refine ⟨_, lK _ w8, ?_⟩)
      | (refine ⟨_, aP, ?_⟩)
      | (refine ⟨_, lP _ w8, ?_⟩)
      | (refine ⟨fun _ => ?_, fun _ => ?_⟩ <;> first | (exfalso; omega) | skip)
      | fail
    refine (checkPours_spec (by omega) (g3y.keep m14) f6).mono ?_
    obtain ⟨E3, hE3⟩ : ∃ x, psE k' ps' = x := ⟨_, rfl⟩
    rw [hE3]
    rintro r K5 ⟨rfl, m5⟩
    have lm5 := m5.1
    have w9 := w8.trans m5
    repeat' first
      | refine CR.cons (es := []) ?_
      | fail
    refine (checkPoursR_spec (by omega) (f3.keep w9) f6).mono ?_
    rw [hE3]
    rintro r K6 ⟨rfl, m6⟩
    have lm6 := m6.1
    have wA := w9.trans m6
    have m16 := (m14.trans m5).trans m6
    have hSA := (m16.2 bm (by omega)).trans hSy
    have hs1A := (m16.2 bs (by omega)).trans hsp1
    have hs2A := (m16.2 bu (by omega)).trans hgy
    have r1A := r1y.keep m16
    have r2A := r2y.keep m16
    have g1A := g1y.keep m16
    have g2A := g2y.keep m16
    have g3A := g3y.keep m16
    clear r1y r2y g1y g2y g3y hSy hsp1 hgy
    repeat' first
      | refine CV.seq ?_
      | refine CV.cond ?_
      | refine CV.skip ?_
      | refine CR.cons (es := []) ?_
      | refine CR.nil ?_
      | (refine ⟨fun _ => ?_, fun _ => ?_⟩ <;> first | (exfalso; omega) | skip)
      | fail
    repeat' first
      | refine CR.cons (es := []) ?_
      | refine CV.wideR callees (by decide +kernel) [(0, []), (1, []), (2, []), (3, []), (4, []), (5, []), (6, []), (7, []), (8, []), (9, []), (10, []), (11, []), (12, []), (13, []), (14, []), (15, []), (16, []), (17, []), (18, []), (19, []), (20, []), (21, []), (22, []), (23, []), (24, []), (25, []), (26, []), (27, []), (28, []), (29, []), (30, []), (31, []), (32, []), (33, []), (34, []), (35, []), (36, [])] (by kernel_rfl) ?_
      | (refine ⟨_, ld41 hs1A, ?_⟩)
      | (refine ⟨_, ld41 hs2A, ?_⟩)
      | (refine ⟨_, fun tm ha => step1_neS rfl (ev_tmp ha rfl) (ev_tmp ha rfl), ?_⟩)
      | (refine ⟨fun _ => ?_, fun _ => ?_⟩ <;> first | (exfalso; omega) | skip)
      | fail
    refine (eqSpans_spec (by omega) r1A r2A (by omega)).mono ?_
    rintro r K7 ⟨rfl, rfl⟩
    repeat' first
      | refine CR.cons (es := []) ?_
      | (refine ⟨_, ld28 hSA, ?_⟩)
      | (refine ⟨_, aF, ?_⟩)
      | (refine ⟨_, lF _ wA, ?_⟩)
      | fail
    refine (eqFires_spec (by omega) g1A g2A (f1.keep wA) (f2.keep wA) f4 f5).mono ?_
    rintro r K8 ⟨rfl, m8⟩
    have lm8 := m8.1
    have wB := wA.trans m8
    repeat' first
      | refine CR.cons (es := []) ?_
      | (refine ⟨_, aP, ?_⟩)
      | (refine ⟨_, lP _ wB, ?_⟩)
      | fail
    refine (eqPours_spec (by omega) (g3A.keep m8) (f3.keep wB) f6).mono ?_
    rintro r K9 ⟨rfl, rfl⟩
    repeat' first
      | refine CO.cons rfl ?_
      | refine CO.nil ?_
      | refine CV.region callees ?_
      | refine CV.cond ?_
      | refine CV.skip ?_
      | refine CR.cons ?_
      | refine CR.nil ?_
      | refine ⟨(⟨by omega, by omega⟩ : inI64 _), ?_⟩
      | fail
    refine ⟨(i + 1), (by repeat' first | exact trivial | refine ⟨rfl, ?_⟩ | refine ⟨slot_int (by (try simp only [Int.toNat_natCast]); omega), ?_⟩), (by (try dsimp only); omega), ?_⟩
    exact ⟨by omega, wB⟩
  obtain rfl : i = 3 := by omega
  repeat' first
    | refine CO.cons rfl ?_
    | refine CO.nil ?_
    | refine CV.seq ?_
    | refine CV.region callees ?_
    | refine CV.cond ?_
    | refine CV.exit ?_
    | (refine ⟨_, hlenS, ?_⟩)
    | (refine ⟨fun _ => ?_, fun _ => ?_⟩ <;> first | (exfalso; omega) | skip)
    | fail
  refine (awake_spec (by omega)).mono ?_
  rintro r I5 ⟨rfl, j5⟩
  repeat' first
    | refine CO.cons rfl ?_
    | refine CO.nil ?_
    | refine CV.ret ?_
    | fail
  exact ⟨rfl, rfl⟩
end Go.Proofs.Ytglkphjjinmgmaa

