
/- The law's helpers, and the chapter's examples. -/
import Derived.Test.YtglkphjjinmgmaaWmh
import Derived.Test.YtglkphjjinmgmaaWkh
set_option linter.unusedVariables false
set_option linter.unusedSimpArgs false
namespace Go.Proofs.Ytglkphjjinmgmaa
open Go.AI
theorem notHeldS : Try.prog.stoodInHeld 27 = false := by kernel_rfl
set_option maxRecDepth 100000 in
theorem eqSp {a b c d : Int} : pureRun Try.prog (Op.equal 27 (.agg #[.int .i64 a, .int .i64 b]) (.agg #[.int .i64 c, .int .i64 d])) = some ((a == c) && (b == d)) := by
  unfold Op.equal
  rw [show Op.maxDepth = 9998 + 1 + 1 from rfl, Op.equalIn, pureRun_bind, pureRun_underlying Try.underlying27]
  simp only [Option.bind_some]
  rw [pureRun_bind, show pureRun Try.prog program = some Try.prog from rfl, Option.bind_some, if_neg (by rw [notHeldS]; simp), pureRun_bind, ← Array.forIn_toList]
  simp only [List.forIn_cons, List.forIn_nil]
  simp only [pureRun_bind]
  simp only [show ("Lo" ≠ "_") = True from by simp, show ("Hi" ≠ "_") = True from by simp, if_true, pureRun_bind, partT0, Option.bind_some, eq_ints un3]
  cases (a == c) with
  | false => rfl
  | true =>
    have hp : ∀ {α : Type} (x : α), pureRun Try.prog (pure x) = some x := fun _ => rfl
    simp only [Bool.not_true, Bool.false_eq_true, if_false, hp, Option.bind_some, pureRun_bind, partT1, eq_ints un3, Bool.true_and]
    cases (b == d) <;> rfl
theorem eqSp1 {p : Int × Int} : pureRun Try.prog (Op.equal 27 (Hv p) (Hv p)) = some true := by
  rw [eqSp]; simp
theorem guardS {op : BinOp} {x y : Operand} {p q : Int × Int} : pureRun Try.prog (eqGuard op 27 x y (Hv p) (Hv q)) = some () := by
  cases op <;> kernel_rfl
theorem step1_eqS {tm : Tm} {H : Heap} {q : Oper} {u : TypeId} {x y : Operand} {p : Int × Int} (ho : q.op = .binOp .eql 27 x y u) (hx : ev Try.prog tm x = some (Hv p)) (hy : ev Try.prog tm y = some (Hv p)) : step1 Try.prog tm H q = some (.bool true, H, H.n) := by
  refine step1_bin ho hx hy rfl rfl (apure_bin ho hx hy rfl rfl guardS ?_ rfl)
  rw [show binOp .eql 27 (Hv p) (Hv p) = (do pure (.bool (← Op.equal 27 (Hv p) (Hv p)))) from rfl, pureRun_bind, eqSp1]
  rfl
theorem step1_neS {tm : Tm} {H : Heap} {q : Oper} {u : TypeId} {x y : Operand} {p : Int × Int} (ho : q.op = .binOp .neq 27 x y u) (hx : ev Try.prog tm x = some (Hv p)) (hy : ev Try.prog tm y = some (Hv p)) : step1 Try.prog tm H q = some (.bool false, H, H.n) := by
  refine step1_bin ho hx hy rfl rfl (apure_bin ho hx hy rfl rfl guardS ?_ rfl)
  rw [show binOp .neq 27 (Hv p) (Hv p) = (do pure (.bool (!(← Op.equal 27 (Hv p) (Hv p))))) from rfl, pureRun_bind, eqSp1]
  rfl
set_option maxRecDepth 100000 in
theorem lspan_spec {B : Nat} {H : Heap} {x y : Int} (hB : B ≤ H.n) :
    CallB Try.prog B 50 [VJ x, VJ y] H (fun r H' => r = Hv (x, y) ∧ Keep H H') := by
  refine CV.enter callees false rfl Try.func50 rfl (by kernel_rfl) (Nat.le_of_ble_eq_true rfl) hB ?_
  repeat' first
    | refine CO.cons rfl ?_
    | refine CO.nil ?_
    | refine CV.seq ?_
    | refine CV.region callees ?_
    | (refine ⟨_, _, al41, ?_⟩)
    | fail
  generalize hs0 : Heap.new H _ = H0
  have hg0 := new_get hs0
  have k0 := new_keep hs0
  have n0 := new_n hs0
  obtain ⟨b0, hbn0⟩ : ∃ b, Heap.n H = b := ⟨_, rfl⟩
  rw [hbn0] at hg0 n0 ⊢
  repeat' first
    | refine CO.cons rfl ?_
    | (refine ⟨_, bu41, ?_⟩)
    | fail
  refine ⟨_, _, st41 hg0, by omega, ?_⟩
  generalize hs2 : Heap.set H0 b0 _ = H2
  have hg2 : H2.get b0 = some (.cells (Hl (x, y)) 27 1) := set_get hs2
  have n2 := set_n hs2
  have o2 := set_old hs2
  repeat' first
    | refine CO.nil ?_
    | refine CV.ret ?_
    | fail
  exact ⟨_, ld41 hg2, rfl, rfl, keep_put k0 (by omega) o2 n2⟩
set_option maxRecDepth 100000 in
theorem lone_spec {B : Nat} {H : Heap} {x : Int} (hB : B ≤ H.n) :
    CallB Try.prog B 62 [VJ x] H (fun r H' => r = Hv (x, x) ∧ Keep H H') := by
  refine CV.enter callees false rfl Try.func62 rfl (by kernel_rfl) (Nat.le_of_ble_eq_true rfl) hB ?_
  repeat' first
    | refine CO.cons rfl ?_
    | refine CO.nil ?_
    | refine CV.seq ?_
    | refine CV.region callees ?_
    | (refine ⟨_, _, al41, ?_⟩)
    | fail
  generalize hs0 : Heap.new H _ = H0
  have hg0 := new_get hs0
  have k0 := new_keep hs0
  have n0 := new_n hs0
  obtain ⟨b0, hbn0⟩ : ∃ b, Heap.n H = b := ⟨_, rfl⟩
  rw [hbn0] at hg0 n0 ⊢
  repeat' first
    | fail
  refine (lspan_spec (by omega)).mono ?_
  rintro r H1 ⟨rfl, k1⟩
  have l1 := k1.1
  have hg1 := (k1.2 b0 (by omega)).trans hg0
  repeat' first
    | refine CO.cons rfl ?_
    | fail
  refine ⟨_, _, st41 hg1, by omega, ?_⟩
  generalize hs2 : Heap.set H1 b0 _ = H2
  have hg2 : H2.get b0 = some (.cells (Hl (x, x)) 27 1) := set_get hs2
  have n2 := set_n hs2
  have o2 := set_old hs2
  repeat' first
    | refine CO.nil ?_
    | refine CV.ret ?_
    | fail
  exact ⟨_, ld41 hg2, rfl, rfl, keep_put (k0.trans k1) (by omega) o2 n2⟩
def c3a : Co := ⟨1, 1, 3, 4, 10, 12, true⟩
def c3b : Co := ⟨2, 3, 5, 5, 20, 20, false⟩
def c3c : Co := ⟨4, 6, 2, 2, 5, 5, false⟩
def cs3 : List Co := [c3a, c3b, c3c]
def ts3 : List (Int × Int) := [(0, 1), (1, 2)]
theorem fok3 : FOk cs3 ts3 := by
  refine ⟨by decide, fun i hi => ?_, by decide, fun i hi => ?_⟩
  · have hi' : i < 3 := hi
    rcases (by omega : i = 0 ∨ i = 1 ∨ i = 2) with rfl | rfl | rfl <;> constructor <;> decide
  · have hi' : i < 2 := hi
    rcases (by omega : i = 0 ∨ i = 1) with rfl | rfl <;> decide
theorem arc3 {e : Int} {p : Int × Int} (h : Arc e cs3 ts3 p) : p = (0, 1) ∨ p = (1, 2) ∨ p = (1, 0) ∨ p = (2, 1) := by
  obtain ⟨a, b⟩ := p
  rcases h.1 with h | h <;> simp [ts3] at h <;> rcases h with ⟨rfl, rfl⟩ | ⟨rfl, rfl⟩ <;> simp
def b30 : List Int := [0, 2, 6]
def b31 : List Int := [0, 3, 1000000]
theorem beg30 : IsBeg 0 cs3 ts3 b30 := by
  refine ⟨rfl, fun i hi => ?_, fun i hi => ?_, fun p hp => ?_, fun i hi hl => ?_⟩
  · have hi' : i < 3 := hi
    rcases (by omega : i = 0 ∨ i = 1 ∨ i = 2) with rfl | rfl | rfl <;> decide
  · have hi' : i < 3 := hi
    rcases (by omega : i = 0 ∨ i = 1 ∨ i = 2) with rfl | rfl | rfl <;> decide
  · rcases arc3 hp with rfl | rfl | rfl | rfl <;> decide
  · have hi' : i < 3 := hi
    rcases (by omega : i = 0 ∨ i = 1 ∨ i = 2) with rfl | rfl | rfl
    · exact absurd hl (by decide)
    · exact .inr ⟨(0, 1), ⟨.inl (by decide), by decide⟩, by decide⟩
    · exact .inr ⟨(1, 2), ⟨.inl (by decide), by decide⟩, by decide⟩
theorem beg31 : IsBeg 1 cs3 ts3 b31 := by
  refine ⟨rfl, fun i hi => ?_, fun i hi => ?_, fun p hp => ?_, fun i hi hl => ?_⟩
  · have hi' : i < 3 := hi
    rcases (by omega : i = 0 ∨ i = 1 ∨ i = 2) with rfl | rfl | rfl <;> decide
  · have hi' : i < 3 := hi
    rcases (by omega : i = 0 ∨ i = 1 ∨ i = 2) with rfl | rfl | rfl <;> decide
  · have h2 := hp.2
    rcases arc3 hp with rfl | rfl | rfl | rfl <;> revert h2 <;> decide
  · have hi' : i < 3 := hi
    rcases (by omega : i = 0 ∨ i = 1 ∨ i = 2) with rfl | rfl | rfl
    · exact absurd hl (by decide)
    · exact .inr ⟨(0, 1), ⟨.inl (by decide), by decide⟩, by decide⟩
    · exact .inl (by decide)
theorem co_three {H : Heap} : abuildSlice Try.prog H 22 3 [(0, Cov c3a), (1, Cov c3b), (2, Cov c3c)] = some (.slice (some ⟨H.n, 0, none⟩) 3 0, H.new (.cells (cs3.map Col).flatten 32 2), H.n) := by kernel_rfl
theorem to_two {H : Heap} : abuildSlice Try.prog H 23 2 [(0, Hv (0, 1)), (1, Hv (1, 2))] = some (.slice (some ⟨H.n, 0, none⟩) 2 0, H.new (.cells (ts3.map Hl).flatten 99 2), H.n) := by kernel_rfl
theorem bu28 {x y : Option Addr} {n m c d : Nat} : abuild Try.prog 25 [(0, .slice x n c), (1, .slice y m d)] = some (Fv (.slice x n c) (.slice y m d)) := by kernel_rfl
set_option maxHeartbeats 4000000 in
set_option maxRecDepth 100000 in
theorem three_spec {B : Nat} {H : Heap} (hB : B ≤ H.n) :
    CallB Try.prog B 63 [] H (fun r H' => (∃ cv tv, r = Fv cv tv ∧ RowS 7 H' cv (cs3.map Col) ∧ RowS 2 H' tv (ts3.map Hl)) ∧ Keep H H') := by
  refine CV.enter callees false rfl Try.func63 rfl (by kernel_rfl) (Nat.le_of_ble_eq_true rfl) hB ?_
  repeat' first
    | refine CO.cons rfl ?_
    | refine CO.nil ?_
    | refine CV.seq ?_
    | refine CV.region callees ?_
    | (refine ⟨_, _, al28, ?_⟩)
    | fail
  generalize hs0 : Heap.new H _ = H0
  have hg0 := new_get hs0
  have k0 := new_keep hs0
  have n0 := new_n hs0
  obtain ⟨b0, hbn0⟩ : ∃ b, Heap.n H = b := ⟨_, rfl⟩
  rw [hbn0] at hg0 n0 ⊢
  repeat' first
    | fail
  refine (lone_spec (by omega)).mono ?_
  rintro r H1 ⟨rfl, k1⟩
  have l1 := k1.1
  repeat' first
    | refine CO.cons rfl ?_
    | fail
  refine (lspan_spec (by omega)).mono ?_
  rintro r H2 ⟨rfl, k2⟩
  have l2 := k2.1
  repeat' first
    | refine CO.cons rfl ?_
    | fail
  refine (lspan_spec (by omega)).mono ?_
  rintro r H3 ⟨rfl, k3⟩
  have l3 := k3.1
  repeat' first
    | refine CO.cons rfl ?_
    | (refine ⟨_, bu48, ?_⟩)
    | fail
  refine (lspan_spec (by omega)).mono ?_
  rintro r H4 ⟨rfl, k4⟩
  have l4 := k4.1
  repeat' first
    | refine CO.cons rfl ?_
    | fail
  refine (lone_spec (by omega)).mono ?_
  rintro r H5 ⟨rfl, k5⟩
  have l5 := k5.1
  repeat' first
    | refine CO.cons rfl ?_
    | fail
  refine (lone_spec (by omega)).mono ?_
  rintro r H6 ⟨rfl, k6⟩
  have l6 := k6.1
  repeat' first
    | refine CO.cons rfl ?_
    | (refine ⟨_, bu48, ?_⟩)
    | fail
  refine (lspan_spec (by omega)).mono ?_
  rintro r H7 ⟨rfl, k7⟩
  have l7 := k7.1
  repeat' first
    | refine CO.cons rfl ?_
    | fail
  refine (lone_spec (by omega)).mono ?_
  rintro r H8 ⟨rfl, k8⟩
  have l8 := k8.1
  repeat' first
    | refine CO.cons rfl ?_
    | fail
  refine (lone_spec (by omega)).mono ?_
  rintro r H9 ⟨rfl, k9⟩
  have l9 := k9.1
  have k09 := (((k0.trans k1).trans (k2.trans k3)).trans ((k4.trans k5).trans (k6.trans k7))).trans (k8.trans k9)
  have kk := (((k1).trans (k2.trans k3)).trans ((k4.trans k5).trans (k6.trans k7))).trans (k8.trans k9)
  have hg9 := (kk.2 b0 (by omega)).trans hg0
  repeat' first
    | refine CO.cons rfl ?_
    | (refine ⟨_, bu48, ?_⟩)
    | fail
  refine ⟨_, _, co_three, ?_⟩
  generalize hsa : Heap.new H9 _ = Ha
  have hga := new_get hsa
  have ka := new_keep hsa
  have na := new_n hsa
  obtain ⟨ba, hbna⟩ : ∃ b, Heap.n H9 = b := ⟨_, rfl⟩
  rw [hbna] at hga na ⊢
  repeat' first
    | refine CO.cons rfl ?_
    | (refine ⟨_, bu82, ?_⟩)
    | fail
  refine ⟨_, _, to_two, ?_⟩
  generalize hsb : Heap.new Ha _ = Hb
  have hgb := new_get hsb
  have kb := new_keep hsb
  have nb := new_n hsb
  obtain ⟨bb, hbnb⟩ : ∃ b, Heap.n Ha = b := ⟨_, rfl⟩
  rw [hbnb] at hgb nb ⊢
  have hgb2 := (kb.2 b0 (by omega)).trans ((ka.2 b0 (by omega)).trans hg9)
  have hga2 := (kb.2 ba (by omega)).trans hga
  repeat' first
    | refine CO.cons rfl ?_
    | (refine ⟨_, bu28, ?_⟩)
    | fail
  refine ⟨_, _, st28 rfl rfl hgb2, by omega, ?_⟩
  generalize hsz : Heap.set Hb b0 _ = Hz
  have hgz := set_get hsz
  have nz := set_n hsz
  have oz := set_old hsz
  repeat' first
    | refine CO.nil ?_
    | refine CV.ret ?_
    | fail
  have q1 : OwnC Hz (.slice (some ⟨ba, 0, none⟩) 3 0) cs3 0 := ⟨fun r hr => by obtain ⟨x, _, rfl⟩ := List.mem_map.1 hr; rfl, .inr ⟨ba, rfl, Nat.zero_le _, by omega, (oz ba (by omega)).trans hga2⟩⟩
  have q2 : OwnT Hz (.slice (some ⟨bb, 0, none⟩) 2 0) ts3 0 := ⟨fun r hr => by obtain ⟨x, _, rfl⟩ := List.mem_map.1 hr; rfl, .inr ⟨bb, rfl, Nat.zero_le _, by omega, (oz bb (by omega)).trans hgb⟩⟩
  exact ⟨_, ld28 hgz, rfl, ⟨_, _, rfl, q1.row, q2.row⟩, keep_put ((k09.trans ka).trans kb) (by omega) oz nz⟩
def pot3 : Ke := ⟨10, 200, 200, 200, 100, 100000, 400, 900⟩
theorem zc51 : zeroCellsW Try.prog 29 = some (Kel ⟨0, 0, 0, 0, 0, 0, 0, 0⟩) := by kernel_rfl
theorem sz51h : sizeB Try.prog 29 = some 8 := by kernel_rfl
theorem ag51h : isAggB Try.prog 29 = some true := by kernel_rfl
theorem al51 {H : Heap} : sAlloc Try.prog H 29 = some (.pointer (some ⟨H.n, 0, none⟩), H.new (.cells (Kel ⟨0, 0, 0, 0, 0, 0, 0, 0⟩) 29 1), H.n) := alloc_ofW zc51
theorem st51 {H : Heap} {b k : Nat} {p q : Ke} {e : TypeId} (hg : H.get b = some (.cells (Kel p) e (k + 1))) : astore Try.prog 29 H (Kev q) (.pointer (some ⟨b, 0, none⟩)) = some (H.set b (.cells (Kel q) e (k + 1)), b) := store_allW (vs := Kel q) hg rfl sz51h rfl
theorem ld51 {H : Heap} {b : Nat} {p : Ke} {e : TypeId} {k : Nat} (hg : H.get b = some (.cells (Kel p) e k)) : aload Try.prog 29 H (.pointer (some ⟨b, 0, none⟩)) = some (Kev p) := agg_load ag51h sz51h hg (Nat.le_refl _)
theorem bu51 {w r g l s b : Int} {p : Int × Int} : abuild Try.prog 29 [(0, VJ w), (1, Hv p), (2, VJ r), (3, VJ g), (4, VJ l), (5, VJ s), (6, VJ b)] = some (Kev ⟨w, p.1, p.2, r, g, l, s, b⟩) := by kernel_rfl
set_option maxRecDepth 100000 in
theorem pot_spec {B : Nat} {H : Heap} (hB : B ≤ H.n) :
    CallB Try.prog B 64 [] H (fun r H' => r = Kev pot3 ∧ Keep H H') := by
  refine CV.enter callees false rfl Try.func64 rfl (by kernel_rfl) (Nat.le_of_ble_eq_true rfl) hB ?_
  repeat' first
    | refine CO.cons rfl ?_
    | refine CO.nil ?_
    | refine CV.seq ?_
    | refine CV.region callees ?_
    | (refine ⟨_, _, al51, ?_⟩)
    | fail
  generalize hs0 : Heap.new H _ = H0
  have hg0 := new_get hs0
  have k0 := new_keep hs0
  have n0 := new_n hs0
  obtain ⟨b0, hbn0⟩ : ∃ b, Heap.n H = b := ⟨_, rfl⟩
  rw [hbn0] at hg0 n0 ⊢
  repeat' first
    | fail
  refine (lone_spec (by omega)).mono ?_
  rintro r H1 ⟨rfl, k1⟩
  have l1 := k1.1
  have hg1 := (k1.2 b0 (by omega)).trans hg0
  repeat' first
    | refine CO.cons rfl ?_
    | (refine ⟨_, bu51, ?_⟩)
    | fail
  refine ⟨_, _, st51 hg1, by omega, ?_⟩
  generalize hs2 : Heap.set H1 b0 _ = H2
  have hg2 : H2.get b0 = some (.cells (Kel pot3) 29 1) := set_get hs2
  have n2 := set_n hs2
  have o2 := set_old hs2
  repeat' first
    | refine CO.nil ?_
    | refine CV.ret ?_
    | fail
  exact ⟨_, ld51 hg2, rfl, rfl, keep_put (k0.trans k1) (by omega) o2 n2⟩
theorem sp_len {H : Heap} {v : Value} {l : List (Int × Int)} (h : RowS 2 H v (l.map Hl)) : alen Try.prog H 48 v = some (.int .i64 l.length) := by
  have := h.alen un35; rwa [List.length_map] at this
theorem sp_addr {H : Heap} {v : Value} {l : List (Int × Int)} (h : RowS 2 H v (l.map Hl)) {n : Int} (h0 : 0 ≤ n) (h1 : n < l.length) : aindexAddr Try.prog 48 v (.int .i64 n) = some (elemS v 2 n.toNat) := h.addr un35 sz41 h0 (by rw [List.length_map]; exact h1)
theorem sp_load {H : Heap} {v : Value} {l : List (Int × Int)} (h : RowS 2 H v (l.map Hl)) {j : Nat} (hj : j < l.length) : aload Try.prog 27 H (elemS v 2 j) = some (Hv l[j]!) := h.load ag41 sz41 (hl_at hj)
set_option maxHeartbeats 4000000 in
set_option maxRecDepth 100000 in
theorem eqSpans_spec {B : Nat} {H : Heap} {v w : Value} {l : List (Int × Int)} (hB : B ≤ H.n) (hv : RowS 2 H v (l.map Hl)) (hw : RowS 2 H w (l.map Hl)) (hn : l.length < 100000) :
    CallB Try.prog B 33 [v, w] H (fun r H' => r = .bool true ∧ H' = H) := by
  refine CV.enter callees false rfl Try.func33 rfl (by kernel_rfl) (Nat.le_of_ble_eq_true rfl) hB ?_
  repeat' first
    | refine CO.cons rfl ?_
    | refine CO.nil ?_
    | refine CV.seq ?_
    | refine CV.region callees ?_
    | refine CV.cond ?_
    | refine CV.block ?_
    | refine CV.skip ?_
    | (refine ⟨_, sp_len hv, ?_⟩)
    | (refine ⟨_, sp_len hw, ?_⟩)
    | (refine ⟨fun _ => ?_, fun _ => ?_⟩ <;> first | (exfalso; omega) | skip)
    | fail
  refine CV.loopc ?_
  refine WCv.rounds callees false (α := Nat) (fun i => [(0, v), (1, w), (5, VJ i)]) (fun i Hz => i ≤ l.length ∧ Hz = H) (fun i => l.length - i) (0) (by repeat' first | exact trivial | refine ⟨rfl, ?_⟩ | refine ⟨slot_int (by (try simp only [Int.toNat_natCast]); omega), ?_⟩) ?_ ?_
  · exact ⟨by omega, rfl⟩
  rintro i Hx ⟨hi, rfl⟩ hBx
  by_cases hi2 : i < l.length
  · repeat' first
      | refine CO.cons rfl ?_
      | refine CO.nil ?_
      | refine CV.seq ?_
      | refine CV.region callees ?_
      | refine CV.cond ?_
      | refine CV.block ?_
      | refine CV.skip ?_
      | refine CV.draw callees (by decide +kernel) ?_
      | refine CH.cons rfl ?_
      | refine CH.nil ?_
      | refine ⟨(⟨by omega, by omega⟩ : inI64 _), ?_⟩
      | (refine ⟨_, sp_len hv, ?_⟩)
      | (refine ⟨_, sp_addr hv (by omega) (by omega), ?_⟩)
      | (refine ⟨_, sp_addr hw (by omega) (by omega), ?_⟩)
      | (refine ⟨_, sp_load hv hi2, ?_⟩)
      | (refine ⟨_, sp_load hw hi2, ?_⟩)
      | (refine ⟨_, fun tm ha => step1_neS rfl (ev_tmp ha rfl) (ev_tmp ha rfl), ?_⟩)
      | (refine ⟨fun _ => ?_, fun _ => ?_⟩ <;> first | (exfalso; omega) | skip)
      | fail
    refine ⟨(i + 1), (by repeat' first | exact trivial | refine ⟨rfl, ?_⟩ | refine ⟨slot_int (by (try simp only [Int.toNat_natCast]); omega), ?_⟩), (by (try dsimp only); omega), ?_⟩
    exact ⟨by omega, rfl⟩
  repeat' first
    | refine CO.cons rfl ?_
    | refine CO.nil ?_
    | refine CV.seq ?_
    | refine CV.region callees ?_
    | refine CV.cond ?_
    | refine CV.exit ?_
    | refine CV.ret ?_
    | (refine ⟨_, sp_len hv, ?_⟩)
    | (refine ⟨fun _ => ?_, fun _ => ?_⟩ <;> first | (exfalso; omega) | skip)
    | fail
  exact ⟨rfl, rfl, rfl⟩
end Go.Proofs.Ytglkphjjinmgmaa

