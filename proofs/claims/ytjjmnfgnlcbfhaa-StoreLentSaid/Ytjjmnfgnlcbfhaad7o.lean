
/- StoreLent, StoreLoans. -/
import Derived.Test.Ytjjmnfgnlcbfhaacbo
import Derived.Test.Ytjjmnfgnlcbfhaad6o
set_option linter.unusedVariables false
set_option linter.unusedSimpArgs false
namespace Go.Proofs.Ytjjmnfgnlcbfhaa
open Go.AI
theorem pure_forIn {α β : Type} {P : Program} {init : β} {f : α → β → Sem (ForInStep β)} : ∀ (l : List α), (∀ a ∈ l, pureRun P (f a init) = some (.yield init)) → pureRun P (forIn l init f) = some init
  | [], _ => rfl
  | a :: l, h => by
    rw [List.forIn_cons, pureRun_bind, h a (by simp)]
    exact pure_forIn l fun b hb => h b (by simp [hb])
theorem eq_int {t : TypeId} {k : IntKind} {a : Int} {d : Nat} (ht : Try.prog.underlying t = some (.int k)) : pureRun Try.prog (Op.equalIn (d + 1) t (.int .i64 a) (.int .i64 a)) = some true := by
  rw [Op.equalIn, pureRun_bind, pureRun_underlying ht]
  simp
  rfl
theorem notHeldO : Try.prog.stoodInHeld 99 = false := by kernel_rfl
abbrev La (a b c d : Int) : Array Value := #[Value.int IntKind.i64 a, Value.int IntKind.i64 b, Value.int IntKind.i64 c, Value.int IntKind.i64 d]
theorem partO0 {a b c d : Int} : pureRun Try.prog (part 3 (La a b c d) 0) = some (.int .i64 a) := by kernel_rfl
theorem partO1 {a b c d : Int} : pureRun Try.prog (part 3 (La a b c d) 1) = some (.int .i64 b) := by kernel_rfl
theorem partO2 {a b c d : Int} : pureRun Try.prog (part 3 (La a b c d) 2) = some (.int .i64 c) := by kernel_rfl
theorem partO3 {a b c d : Int} : pureRun Try.prog (part 3 (La a b c d) 3) = some (.int .i64 d) := by kernel_rfl
set_option maxRecDepth 100000 in
theorem eqLo {x : Lo} : pureRun Try.prog (Op.equal 99 (Lov x) (Lov x)) = some true := by
  unfold Op.equal
  rw [show Op.maxDepth = 9998 + 1 + 1 from rfl, Op.equalIn, pureRun_bind, pureRun_underlying Try.underlying99]
  simp only [Option.bind_some]
  rw [pureRun_bind, show pureRun Try.prog program = some Try.prog from rfl, Option.bind_some, if_neg (by rw [notHeldO]; simp), pureRun_bind, ← Array.forIn_toList, pure_forIn]
  · rfl
  intro f hf
  simp only [List.mem_cons, List.not_mem_nil, or_false] at hf
  rcases hf with rfl | rfl | rfl | rfl
  · rw [if_pos (by decide), pureRun_bind, partO0, Option.bind_some, pureRun_bind, partO0, Option.bind_some, pureRun_bind, eq_int un3]; rfl
  · rw [if_pos (by decide), pureRun_bind, partO1, Option.bind_some, pureRun_bind, partO1, Option.bind_some, pureRun_bind, eq_int un3]; rfl
  · rw [if_pos (by decide), pureRun_bind, partO2, Option.bind_some, pureRun_bind, partO2, Option.bind_some, pureRun_bind, eq_int un3]; rfl
  · rw [if_pos (by decide), pureRun_bind, partO3, Option.bind_some, pureRun_bind, partO3, Option.bind_some, pureRun_bind, eq_int un3]; rfl
theorem guardLo {op : BinOp} {x y : Operand} {p q : Lo} : pureRun Try.prog (eqGuard op 99 x y (Lov p) (Lov q)) = some () := by
  cases op <;> kernel_rfl
theorem step1_neLo {tm : Tm} {H : Heap} {q : Oper} {u : TypeId} {x y : Operand} {p : Lo} (ho : q.op = .binOp .neq 99 x y u) (hx : ev Try.prog tm x = some (Lov p)) (hy : ev Try.prog tm y = some (Lov p)) : step1 Try.prog tm H q = some (.bool false, H, H.n) := by
  refine step1_bin ho hx hy rfl rfl (apure_bin ho hx hy rfl rfl guardLo ?_ rfl)
  rw [show binOp .neq 99 (Lov p) (Lov p) = (do pure (.bool (!(← Op.equal 99 (Lov p) (Lov p))))) from rfl, pureRun_bind, eqLo]
  rfl
set_option maxRecDepth 100000 in
theorem eqLoans_spec {B : Nat} {H : Heap} {v w : Value} {l : List Lo} (hB : B ≤ H.n) (hv : RowS 4 H v (l.map Lol)) (hw : RowS 4 H w (l.map Lol)) (hn : l.length < 1000000) :
    CallB Try.prog B 42 [v, w] H (fun r H' => r = .bool true ∧ Keep H H') := by
  refine CV.enter callees false rfl Try.func42 rfl (by kernel_rfl) (Nat.le_of_ble_eq_true rfl) hB ?_
  repeat' first
    | refine CO.cons rfl ?_
    | refine CO.nil ?_
    | refine CV.seq ?_
    | refine CV.region callees ?_
    | refine CV.cond ?_
    | refine CV.block ?_
    | refine CV.skip ?_
    | (refine ⟨_, lo_len hv, ?_⟩)
    | (refine ⟨_, lo_len hw, ?_⟩)
    | (refine ⟨fun _ => ?_, fun _ => ?_⟩ <;> first | (exfalso; omega) | skip)
    | fail
  refine CV.loopc ?_
  refine WCv.rounds callees false (α := Nat) (fun i => [(0, v), (1, w), (5, VI i)]) (fun i Hz => i ≤ l.length ∧ Hz = H) (fun i => l.length - i) (0) (by repeat' first | exact trivial | refine ⟨rfl, ?_⟩ | refine ⟨slot_int (by (try simp only [Int.toNat_natCast]); omega), ?_⟩) ?_ ?_
  · exact ⟨by omega, rfl⟩
  rintro i Hx ⟨hi, rfl⟩ hBx
  by_cases hi2 : i < l.length
  · have h1 := lo_load hv (j := i) hi2
    have h2 := lo_load hw (j := i) hi2
    repeat' first
      | refine CO.cons rfl ?_
      | refine CO.nil ?_
      | refine CV.seq ?_
      | refine CV.region callees ?_
      | refine CV.cond ?_
      | refine CV.block ?_
      | refine CV.skip ?_
      | refine CV.draw callees (by decide +kernel) ?_
      | refine CH.cons rfl ?_
      | refine CH.nil ?_
      | refine ⟨(⟨by omega, by omega⟩ : inI64 _), ?_⟩
      | (refine ⟨_, lo_len hv, ?_⟩)
      | (refine ⟨_, lo_addr hv (by omega) (by omega), ?_⟩)
      | (refine ⟨_, lo_addr hw (by omega) (by omega), ?_⟩)
      | (refine ⟨_, h1, ?_⟩)
      | (refine ⟨_, h2, ?_⟩)
      | (refine ⟨_, fun tm ha => step1_neLo rfl (ev_tmp ha rfl) (ev_tmp ha rfl), ?_⟩)
      | (refine ⟨fun _ => ?_, fun _ => ?_⟩ <;> first | (exfalso; omega) | skip)
      | fail
    refine ⟨(i + 1), (by repeat' first | exact trivial | refine ⟨rfl, ?_⟩ | refine ⟨slot_int (by (try simp only [Int.toNat_natCast]); omega), ?_⟩), (by (try dsimp only); omega), ?_⟩
    exact ⟨by omega, rfl⟩
  obtain rfl : i = l.length := by omega
  repeat' first
    | refine CO.cons rfl ?_
    | refine CO.nil ?_
    | refine CV.seq ?_
    | refine CV.region callees ?_
    | refine CV.cond ?_
    | refine CV.exit ?_
    | refine CV.ret ?_
    | (refine ⟨_, lo_len hv, ?_⟩)
    | (refine ⟨fun _ => ?_, fun _ => ?_⟩ <;> first | (exfalso; omega) | skip)
    | fail
  exact ⟨rfl, rfl, Keep.refl _⟩
theorem lonE_ok {l : List Lo} (h : ∀ x ∈ l, loE x = 0) (hn : l.length ≤ 12) : lonE l = 0 := by
  unfold lonE
  rw [if_neg (by omega)]
  exact firstLo_of h
/-- A loan more may be left out. -/
theorem more_best {l : List Lo} {x : Lo} {b b' : List Bool} (h : BestL l b) (h' : BestL (l ++ [x]) b') : wsum (memL l (valB b)) ≤ wsum (memL (l ++ [x]) (valB b')) := by
  have hl : (b ++ [false]).length = (l ++ [x]).length := by simp [h.n]
  have hm : memL (l ++ [x]) (valB (b ++ [false])) = memL l (valB b) := by
    unfold memL
    rw [← hl, bits_valB, ← h.n, bits_valB, selX_snoc h.n]
    simp
  have := h'.m (b ++ [false]) hl (by rw [hm]; exact h.a)
  rw [hm] at this
  rcases this with h1 | ⟨h1, _⟩ <;> omega
set_option maxHeartbeats 16000000 in
set_option maxRecDepth 100000 in
theorem lent_spec {v : Value} {H : Heap} {nums : List Int} (hv : Ints H v nums) (hx : nums.length ≤ 9223372036854775807) :
    CallB Try.prog H.n 11 [v] H (fun r _ => r = .bool true) := by
  have hn : H.n ≤ H.n := Nat.le_refl _
  refine CV.enter callees false rfl Try.func11 rfl (by kernel_rfl) (Nat.le_of_ble_eq_true rfl) hn ?_
  repeat' first
    | refine CO.cons rfl ?_
    | refine CO.nil ?_
    | refine CV.seq ?_
    | refine CV.region callees ?_
    | fail
  refine (boxOf_spec hn hv hx).mono ?_
  rintro r H1 ⟨⟨b, rfl, hb, hbox⟩, k1⟩
  have l1 := k1.1
  have hbn := hbox.1
  repeat' first
    | refine CO.cons rfl ?_
    | refine CO.nil ?_
    | refine CV.seq ?_
    | refine CV.region callees ?_
    | fail
  refine (loansOf_spec (most := 9) hb l1 hbox (by omega)).mono ?_
  rintro lv H2 ⟨⟨l, hl2, hln, hlo⟩, hb2, x2⟩
  have l2 := x2.1
  have he0 : lonE l = 0 := lonE_ok hlo (by omega)
  repeat' first
    | refine CO.cons rfl ?_
    | refine CO.nil ?_
    | refine CV.seq ?_
    | refine CV.region callees ?_
    | fail
  refine (lend_spec (by omega) hl2.row).mono ?_
  rintro r H3 ⟨⟨hne, _⟩ | ⟨_, q, best, rfl, hq, hbest⟩, k3⟩
  · exact absurd he0 hne
  have l3 := k3.1
  have hB := hbest.list
  have hbb := bits_back hbest.1
  obtain ⟨bs, hbs⟩ : ∃ bs, bitsB best l.length = bs := ⟨_, rfl⟩
  rw [hbs] at hB hq hbb
  rw [← hbb]
  have hb3 := hb2.keep k3
  have hl3 : OwnLo H3 lv l H1.n := OwnS.keep hl2 k3
  repeat' first
    | refine CO.cons rfl ?_
    | refine CO.nil ?_
    | refine CV.seq ?_
    | refine CV.region callees ?_
    | fail
  refine (up_spec hb (by omega) hb3 (by omega)).mono ?_
  rintro r H4 ⟨⟨f, rfl, f0, f1⟩, hb4, x4⟩
  have l4 := x4.1
  have hl4 : OwnLo H4 lv l H1.n := OwnS.boxed hl3 x4 hb3
  repeat' first
    | refine CO.cons rfl ?_
    | refine CO.nil ?_
    | refine CV.seq ?_
    | refine CV.region callees ?_
    | fail
  refine (ownLoans_spec (by omega) hl4.row (by omega)).mono ?_
  rintro w H5 ⟨hw5, k5⟩
  have l5 := k5.1
  have hb5 := hb4.keep k5
  repeat' first
    | refine CO.cons rfl ?_
    | fail
  refine (up_spec hb (by omega) hb5 (by omega)).mono ?_
  rintro r H6 ⟨⟨t, rfl, t0, t1⟩, hb6, x6⟩
  have l6 := x6.1
  repeat' first
    | refine CO.cons rfl ?_
    | fail
  refine (up_spec hb (by omega) hb6 (by omega)).mono ?_
  rintro r H7 ⟨⟨g, rfl, g0, g1⟩, hb7, x7⟩
  have l7 := x7.1
  repeat' first
    | refine CO.cons rfl ?_
    | refine ⟨(⟨by omega, by omega⟩ : inI64 _), ?_⟩
    | fail
  refine (up_spec hb (by omega) hb7 (by omega)).mono ?_
  rintro r H8 ⟨⟨z, rfl, z0, z1⟩, hb8, x8⟩
  have l8 := x8.1
  have x58 : KeepX b H5 H8 := (x6.trans x7).trans x8
  have hw8 : OwnLo H8 w l H4.n := OwnS.boxed hw5 x58 hb5
  have x38 : KeepX b H3 H8 := (x4.trans (k5.butX b)).trans x58
  have hl8 : OwnLo H8 lv l H1.n := OwnS.boxed hl3 x38 hb3
  have hq8 : Own 3 H8 q ((selB 0 bs).map VI) H2.n := hq.box x38 hb3
  have hok : loE ⟨t, f, f + g, z⟩ = 0 := loE_ok (by show 0 ≤ t; omega) (by show t ≤ 49; omega) (by show 0 ≤ f; omega) (by show f ≤ f + g; omega) (by show f + g ≤ 100000; omega) (by show 0 ≤ z; omega) (by show z ≤ 1000; omega)
  repeat' first
    | refine CO.cons rfl ?_
    | (refine ⟨_, buLo, ?_⟩)
    | (refine ⟨_, _, loOne, ?_⟩)
    | fail
  refine loPush hw8 (by omega) (by omega) (by omega) ?_
  intro w9 H9 hw9 kb9 hf9
  have l9 := kb9.le
  have hwb : ∀ c, blkOf w = some c → H4.n ≤ c := fun c hc => (hw8.lt hc).1
  have hwb5 : ∀ c, blkOf lv = some c → c < H2.n := fun c hc => (hl2.lt hc).2
  have hqb3 : ∀ c, blkOf q = some c → c < H3.n := fun c hc => (hq.lt hc).2
  have hl9 : OwnLo H9 lv l H1.n := ownS_keepBt hl8 kb9 fun c h1 h2 => by have := hwb _ h2; have := hwb5 _ h1; omega
  have hq9 : Own 3 H9 q ((selB 0 bs).map VI) H2.n := own_keepF hq8 (by omega) fun c hc => kb9.get c (by have := hqb3 c hc; omega) fun h => by have := hwb _ h; have := hqb3 c hc; omega
  have he1 : lonE (l ++ [⟨t, f, f + g, z⟩]) = 0 := lonE_ok (fun x hx => by
    rcases List.mem_append.1 hx with h | h
    · exact hlo x h
    · rw [List.mem_singleton] at h; subst h; exact hok) (by simp; omega)
  repeat' first
    | refine CO.cons rfl ?_
    | fail
  refine (lend_spec (by omega) hw9.row).mono ?_
  rintro r Ha ⟨⟨hne, _⟩ | ⟨_, q', best', rfl, hq', hbest'⟩, ka⟩
  · exact absurd he1 hne
  have la := ka.1
  have hmore := more_best hB hbest'.list
  rw [bits_back hbest'.1] at hmore
  have hla : OwnLo Ha lv l H1.n := OwnS.keep hl9 ka
  have hqa : Own 3 Ha q ((selB 0 bs).map VI) H2.n := hq9.keep ka
  generalize wsum (memL (l ++ [⟨t, f, f + g, z⟩]) best') = W' at hmore
  clear hl8 hl9 hq8 hq9 hw8 hw9 hw5 hl4 hl3 hb8 hb7 hb6 hb5 hb4 hb3 hq' x38 x58
  have hw : ∀ x ∈ l, 0 ≤ x.w ∧ x.w ≤ 1000 := fun x hx => loE_w (hlo x hx)
  have hpow : 2 ^ l.length ≤ 2 ^ 9 := Nat.pow_le_pow_right (by decide) hln
  obtain ⟨P, hP⟩ : ∃ P, 2 ^ l.length = P := ⟨_, rfl⟩
  rw [hP] at hpow
  have hP12 : P ≤ 512 := hpow
  have hWb : 0 ≤ wsum (memL l (valB bs)) ∧ wsum (memL l (valB bs)) ≤ 9000 := by
    have h1 := memL_len (l := l) (c := valB bs)
    have h2 := wsum_bd (l := memL l (valB bs)) fun x hx => hw x (selX_mem hx)
    omega
  obtain ⟨W, hW⟩ : ∃ W, wsum (memL l (valB bs)) = W := ⟨_, rfl⟩
  rw [hW] at hmore hWb ⊢
  have hsl : (selB 0 bs).length ≤ l.length := by rw [← memL_sel hB.n]; exact memL_len
  repeat' first
    | refine CO.cons rfl ?_
    | refine CO.nil ?_
    | refine CV.seq ?_
    | refine CV.region callees ?_
    | refine CV.cond ?_
    | refine CV.block ?_
    | refine CV.skip ?_
    | refine CO.consG rfl ?_
    | (refine ⟨fun _ => ?_, fun _ => ?_⟩ <;> first | (exfalso; omega) | skip)
    | fail
  refine CV.loopc ?_
  refine WCv.rounds callees false (α := Nat × Bool) (fun (c, fb) => [(4, lv), (5, q), (6, VI W), (12, .bool fb), (13, VI c)]) (fun (c, fb) Hz => c ≤ P ∧ (fb = true ↔ ∃ s, s < c ∧ setB' s l.length = bs) ∧ Keep Ha Hz) (fun (c, fb) => P - c) (0, false) (by repeat' first | exact trivial | refine ⟨rfl, ?_⟩ | refine ⟨slot_int (by (try simp only [Int.toNat_natCast]); omega), ?_⟩) ?_ ?_
  · exact ⟨by omega, by simp, Keep.refl _⟩
  rintro ⟨c, fb⟩ Hx ⟨hc, hfb, kx⟩ hBx
  have hlx := hla.row.keep kx
  have hqx : Ints Hx q (selB 0 bs) := Row.keep hqa.row kx
  have lx := kx.1
  by_cases hc2 : c < P
  · have hnext : ∀ {g : Bool}, (g = true ↔ setB' c l.length = bs) → ((fb || g) = true ↔ ∃ s, s < c + 1 ∧ setB' s l.length = bs) := fun {g} hg => by
      rw [Bool.or_eq_true, hfb, hg]
      constructor
      · rintro (⟨s, h1, h2⟩ | h)
        · exact ⟨s, by omega, h2⟩
        · exact ⟨c, by omega, h⟩
      · rintro ⟨s, h1, h2⟩
        by_cases e : s = c
        · right; rw [← e]; exact h2
        · left; exact ⟨s, by omega, h2⟩
    have hW' : 0 ≤ wsum (setL l c l.length) ∧ wsum (setL l c l.length) ≤ 9000 := by
      have h1 := setL_w hw (s := c) (n := l.length) (Nat.le_refl _)
      have h2 := wsum_bd h1.2
      omega
    repeat' first
      | refine CO.cons rfl ?_
      | refine CO.nil ?_
      | refine CV.seq ?_
      | refine CV.region callees ?_
      | refine CV.cond ?_
      | refine CV.block ?_
      | refine CV.skip ?_
      | (refine ⟨_, lo_len hlx, ?_⟩)
      | (refine ⟨_, fun tm ha => shlI rfl rfl (ev_tmp ha rfl) (by omega), ?_⟩)
      | (rw [hP])
      | (refine ⟨fun _ => ?_, fun _ => ?_⟩ <;> first | (exfalso; omega) | skip)
      | fail
    refine (chosenR_spec (by omega) hlx (by omega) (by omega) hw).mono ?_
    rintro r I1 ⟨⟨hac, q1, rfl, hq1⟩ | ⟨hac, rfl⟩, j1⟩
    rotate_left
    · repeat' first
        | refine CO.cons rfl ?_
        | refine CO.nil ?_
        | refine CV.seq ?_
        | refine CV.region callees ?_
        | refine CV.cond ?_
        | refine CV.exit ?_
        | refine ⟨(⟨by omega, by omega⟩ : inI64 _), ?_⟩
        | fail
      refine ⟨(c + 1, fb), (by repeat' first | exact trivial | refine ⟨rfl, ?_⟩ | refine ⟨slot_int (by (try simp only [Int.toNat_natCast]); omega), ?_⟩), (by (try dsimp only); omega), ?_⟩
      refine ⟨by omega, ?_, kx.trans j1⟩
      have := hnext (g := false) ⟨(fun h => by cases h), (fun h => by
        rw [setL_mem, h] at hac
        exact absurd hB.a hac)⟩
      rwa [Bool.or_false] at this
    have m1 := j1.1
    have hq1i : Ints I1 q1 (selB 0 (setB' c l.length)) := hq1.row
    have hqx1 : Ints I1 q (selB 0 bs) := Row.keep hqx j1
    have hsl1 : (selB 0 (setB' c l.length)).length ≤ l.length := by rw [← memL_sel (setB_len _)]; exact memL_len
    repeat' first
      | refine CO.cons rfl ?_
      | refine CO.nil ?_
      | refine CV.seq ?_
      | refine CV.region callees ?_
      | refine CV.cond ?_
      | refine CV.skip ?_
      | fail
    refine (eqInts_spec (by omega) hq1i hqx1 (by omega)).mono ?_
    by_cases hsame : setB' c l.length = bs
    · have hse : selB 0 (setB' c l.length) = selB 0 bs := by rw [hsame]
      have hWe : wsum (setL l c l.length) = W := by rw [setL_mem, hsame, hW]
      rw [decide_eq_true hse]
      rintro r I2 ⟨rfl, j2⟩
      have hnx := hnext (g := true) ⟨fun _ => hsame, fun _ => rfl⟩
      cases fb
      · repeat' first
          | refine CO.cons rfl ?_
          | refine CO.nil ?_
          | refine CV.seq ?_
          | refine CV.region callees ?_
          | refine CV.cond ?_
          | refine CV.skip ?_
          | refine CO.consG rfl ?_
          | refine ⟨(⟨by omega, by omega⟩ : inI64 _), ?_⟩
          | (refine ⟨fun _ => ?_, fun _ => ?_⟩ <;> first | (exfalso; omega) | skip)
          | fail
        refine ⟨(c + 1, true), (by repeat' first | exact trivial | refine ⟨rfl, ?_⟩ | refine ⟨slot_int (by (try simp only [Int.toNat_natCast]); omega), ?_⟩), (by (try dsimp only); omega), ?_⟩
        exact ⟨by omega, hnx, (kx.trans j1).trans j2⟩
      · repeat' first
          | refine CO.cons rfl ?_
          | refine CO.nil ?_
          | refine CV.seq ?_
          | refine CV.region callees ?_
          | refine CV.cond ?_
          | refine CV.skip ?_
          | refine CO.consG rfl ?_
          | refine ⟨(⟨by omega, by omega⟩ : inI64 _), ?_⟩
          | (refine ⟨fun _ => ?_, fun _ => ?_⟩ <;> first | (exfalso; omega) | skip)
          | fail
        refine ⟨(c + 1, true), (by repeat' first | exact trivial | refine ⟨rfl, ?_⟩ | refine ⟨slot_int (by (try simp only [Int.toNat_natCast]); omega), ?_⟩), (by (try dsimp only); omega), ?_⟩
        exact ⟨by omega, hnx, (kx.trans j1).trans j2⟩
    · have hse : ¬ selB 0 (setB' c l.length) = selB 0 bs := fun h => hsame (selB_inj (by rw [setB_len, hB.n]) h)
      rw [decide_eq_false hse]
      rintro r I2 ⟨rfl, j2⟩
      have hnx := hnext (g := false) ⟨fun h => (by cases h), fun h => absurd h hsame⟩
      rw [Bool.or_false] at hnx
      have hbest1 := hB.m (setB' c l.length) (setB_len _) (by rw [← setL_mem]; exact hac)
      rw [← setL_mem, hW] at hbest1
      have m2 := j2.1
      have hq1i2 : Ints I2 q1 (selB 0 (setB' c l.length)) := Row.keep hq1i j2
      have hqx2 : Ints I2 q (selB 0 bs) := Row.keep hqx1 j2
      rcases hbest1 with h1 | ⟨h1, h2⟩
      · cases fb
        · repeat' first
            | refine CO.cons rfl ?_
            | refine CO.nil ?_
            | refine CV.seq ?_
            | refine CV.region callees ?_
            | refine CV.cond ?_
            | refine CV.skip ?_
            | refine CO.consG rfl ?_
            | refine ⟨(⟨by omega, by omega⟩ : inI64 _), ?_⟩
            | (refine ⟨fun _ => ?_, fun _ => ?_⟩ <;> first | (exfalso; omega) | skip)
            | fail
          refine ⟨(c + 1, false), (by repeat' first | exact trivial | refine ⟨rfl, ?_⟩ | refine ⟨slot_int (by (try simp only [Int.toNat_natCast]); omega), ?_⟩), (by (try dsimp only); omega), ?_⟩
          exact ⟨by omega, hnx, (kx.trans j1).trans j2⟩
        · repeat' first
            | refine CO.cons rfl ?_
            | refine CO.nil ?_
            | refine CV.seq ?_
            | refine CV.region callees ?_
            | refine CV.cond ?_
            | refine CV.skip ?_
            | refine CO.consG rfl ?_
            | refine ⟨(⟨by omega, by omega⟩ : inI64 _), ?_⟩
            | (refine ⟨fun _ => ?_, fun _ => ?_⟩ <;> first | (exfalso; omega) | skip)
            | fail
          refine ⟨(c + 1, true), (by repeat' first | exact trivial | refine ⟨rfl, ?_⟩ | refine ⟨slot_int (by (try simp only [Int.toNat_natCast]); omega), ?_⟩), (by (try dsimp only); omega), ?_⟩
          exact ⟨by omega, hnx, (kx.trans j1).trans j2⟩
      · rcases h2 with h2 | ⟨h2, h3 | h3⟩
        · cases fb
          · repeat' first
              | refine CO.cons rfl ?_
              | refine CO.nil ?_
              | refine CV.seq ?_
              | refine CV.region callees ?_
              | refine CV.cond ?_
              | refine CV.skip ?_
              | refine CO.consG rfl ?_
              | refine ⟨_, ints_len (by assumption), ?_⟩
              | refine ⟨(⟨by omega, by omega⟩ : inI64 _), ?_⟩
              | (refine ⟨fun _ => ?_, fun _ => ?_⟩ <;> first | (exfalso; omega) | skip)
              | fail
            refine ⟨(c + 1, false), (by repeat' first | exact trivial | refine ⟨rfl, ?_⟩ | refine ⟨slot_int (by (try simp only [Int.toNat_natCast]); omega), ?_⟩), (by (try dsimp only); omega), ?_⟩
            exact ⟨by omega, hnx, (kx.trans j1).trans j2⟩
          · repeat' first
              | refine CO.cons rfl ?_
              | refine CO.nil ?_
              | refine CV.seq ?_
              | refine CV.region callees ?_
              | refine CV.cond ?_
              | refine CV.skip ?_
              | refine CO.consG rfl ?_
              | refine ⟨_, ints_len (by assumption), ?_⟩
              | refine ⟨(⟨by omega, by omega⟩ : inI64 _), ?_⟩
              | (refine ⟨fun _ => ?_, fun _ => ?_⟩ <;> first | (exfalso; omega) | skip)
              | fail
            refine ⟨(c + 1, true), (by repeat' first | exact trivial | refine ⟨rfl, ?_⟩ | refine ⟨slot_int (by (try simp only [Int.toNat_natCast]); omega), ?_⟩), (by (try dsimp only); omega), ?_⟩
            exact ⟨by omega, hnx, (kx.trans j1).trans j2⟩
        · exact absurd h3 hsame
        · have h4 := befL_anti h3
          cases fb
          · repeat' first
              | refine CO.cons rfl ?_
              | refine CO.nil ?_
              | refine CV.seq ?_
              | refine CV.region callees ?_
              | refine CO.consG rfl ?_
              | refine ⟨_, ints_len (by assumption), ?_⟩
              | (refine ⟨fun _ => ?_, fun _ => ?_⟩ <;> first | (exfalso; omega) | skip)
              | fail
            refine (before_spec (by omega) hq1i2 hqx2 (by omega) (by omega)).mono ?_
            rw [h4]
            rintro r I3 ⟨rfl, j3⟩
            repeat' first
              | refine CO.cons rfl ?_
              | refine CO.nil ?_
              | refine CV.region callees ?_
              | refine CV.cond ?_
              | refine CV.skip ?_
              | refine CO.consG rfl ?_
              | refine ⟨(⟨by omega, by omega⟩ : inI64 _), ?_⟩
              | fail
            refine ⟨(c + 1, false), (by repeat' first | exact trivial | refine ⟨rfl, ?_⟩ | refine ⟨slot_int (by (try simp only [Int.toNat_natCast]); omega), ?_⟩), (by (try dsimp only); omega), ?_⟩
            exact ⟨by omega, hnx, ((kx.trans j1).trans j2).trans j3⟩
          · repeat' first
              | refine CO.cons rfl ?_
              | refine CO.nil ?_
              | refine CV.seq ?_
              | refine CV.region callees ?_
              | refine CO.consG rfl ?_
              | refine ⟨_, ints_len (by assumption), ?_⟩
              | (refine ⟨fun _ => ?_, fun _ => ?_⟩ <;> first | (exfalso; omega) | skip)
              | fail
            refine (before_spec (by omega) hq1i2 hqx2 (by omega) (by omega)).mono ?_
            rw [h4]
            rintro r I3 ⟨rfl, j3⟩
            repeat' first
              | refine CO.cons rfl ?_
              | refine CO.nil ?_
              | refine CV.region callees ?_
              | refine CV.cond ?_
              | refine CV.skip ?_
              | refine CO.consG rfl ?_
              | refine ⟨(⟨by omega, by omega⟩ : inI64 _), ?_⟩
              | fail
            refine ⟨(c + 1, true), (by repeat' first | exact trivial | refine ⟨rfl, ?_⟩ | refine ⟨slot_int (by (try simp only [Int.toNat_natCast]); omega), ?_⟩), (by (try dsimp only); omega), ?_⟩
            exact ⟨by omega, hnx, ((kx.trans j1).trans j2).trans j3⟩
  obtain rfl : c = P := by omega
  have hft : fb = true := by
    rw [hfb]
    obtain ⟨s, h1, h2⟩ := set_all bs
    rw [hB.n] at h1 h2
    exact ⟨s, by omega, h2⟩
  subst hft
  repeat' first
    | refine CO.cons rfl ?_
    | refine CO.nil ?_
    | refine CV.seq ?_
    | refine CV.region callees ?_
    | refine CV.cond ?_
    | refine CV.exit ?_
    | refine CO.consG rfl ?_
    | (refine ⟨_, lo_len hlx, ?_⟩)
    | (refine ⟨_, fun tm ha => shlI rfl rfl (ev_tmp ha rfl) (by omega), ?_⟩)
    | (rw [hP])
    | (refine ⟨fun _ => ?_, fun _ => ?_⟩ <;> first | (exfalso; omega) | skip)
    | fail
  refine (awake_spec (by omega)).mono ?_
  rintro r I5 ⟨rfl, j5⟩
  repeat' first
    | refine CO.cons rfl ?_
    | refine CO.nil ?_
    | refine CV.ret ?_
    | fail
  exact ⟨rfl, rfl⟩
end Go.Proofs.Ytjjmnfgnlcbfhaa
