
/- Repeats as the law counts them. -/
import Derived.Test.Ytijimplcjaeneaag1o
set_option linter.unusedVariables false
set_option linter.unusedSimpArgs false
namespace Go.Proofs.Ytijimplcjaeneaa
open Go.AI
theorem repG_bd {gs : List (List Int)} {plan : List Int} {g : Int} : ∀ {n : Nat}, 0 ≤ repG gs plan g n ∧ repG gs plan g n ≤ n
  | 0 => ⟨Int.le_refl _, Int.le_refl _⟩
  | n + 1 => by
    have := repG_bd (gs := gs) (plan := plan) (g := g) (n := n)
    rw [repG]
    split <;> omega
theorem repT_bd {gs : List (List Int)} {plan : List Int} {n : Nat} (h9 : n ≤ 9) : ∀ {k : Nat}, 0 ≤ repT gs plan n k ∧ repT gs plan n k ≤ 9 * k
  | 0 => ⟨Int.le_refl _, Int.le_refl _⟩
  | k + 1 => by
    have h1 := repT_bd (gs := gs) (plan := plan) h9 (k := k)
    have h2 := repG_bd (gs := gs) (plan := plan) (g := (k : Int)) (n := n)
    rw [repT]
    omega
theorem metL_len {gs : List (List Int)} {plan : List Int} {g : Int} : ∀ {n : Nat}, (metL gs plan g n).length ≤ n
  | 0 => Nat.le_refl _
  | n + 1 => by
    have := metL_len (gs := gs) (plan := plan) (g := g) (n := n)
    rw [metL, List.length_append]
    split <;> simp <;> omega
set_option maxHeartbeats 16000000 in
set_option maxRecDepth 100000 in
theorem repeatsL_spec [Orc] {B : Nat} {H : Heap} {s g v : Value} {gv : List Value} {plan : List Int} {gs : List (List Int)} (hB : B ≤ H.n) (hg : Gri H g gv gs) (hv : Ints H v plan) (hpl : plan.length ≤ gs.length) (h9 : gs.length ≤ 9) (hgl : ∀ i, i < gs.length → gs[i]!.length < 1000000) :
    CallB Try.prog B 69 [Sev s g, v] H (fun r H' => r = VI (repT gs plan plan.length 12) ∧ Keep H H') := by
  refine CV.enter callees false (Orc.hv rfl rfl) Try.func69 rfl (by kernel_rfl) (Nat.le_of_ble_eq_true rfl) hB ?_ (Orc.hw rfl rfl)
  repeat' first
    | refine CO.cons rfl ?_
    | refine CV.seq ?_
    | refine CV.region callees ?_
    | fail
  refine ⟨(by simp only [notTuple]), ?_⟩
  rw [boxSe]
  generalize hs0 : Heap.new H _ = H0
  have hg0 := new_get hs0
  have k0 := new_keep hs0
  have n0 := new_n hs0
  obtain ⟨b0, hbn0⟩ : ∃ b, Heap.n H = b := ⟨_, rfl⟩
  rw [hbn0] at hg0 n0 ⊢
  have hg0x := hg.keep k0
  have hv0 : Ints H0 v plan := hv.keep k0
  repeat' first
    | refine CO.cons rfl ?_
    | refine CO.nil ?_
    | refine CV.seq ?_
    | refine CV.region callees ?_
    | refine CV.block ?_
    | fail
  refine CV.loopc ?_
  refine WCv.rounds callees false (α := Nat) (fun k => [(1, v), (2, .pointer (some ⟨b0, 0, none⟩)), (5, VI (repT gs plan plan.length k)), (6, VI k)]) (fun k Hz => k ≤ 12 ∧ Keep H0 Hz) (fun k => 12 - k) (0) (by repeat' first | exact trivial | refine ⟨rfl, ?_⟩ | refine ⟨slot_int (by (try simp only [Int.toNat_natCast]); omega), ?_⟩) ?_ ?_
  · exact ⟨by omega, Keep.refl _⟩
  rintro k Hx ⟨hk, kx⟩ hBx
  have lx := kx.1
  by_cases hk2 : k < 12
  · have hbd := repT_bd (gs := gs) (plan := plan) (n := plan.length) (by omega) (k := k)
    have hr0 : repG gs plan (k : Int) 0 = 0 := rfl
    repeat' first
      | refine CO.cons rfl ?_
      | refine CO.nil ?_
      | refine CV.seq ?_
      | refine CV.region callees ?_
      | refine CV.cond ?_
      | refine CV.block ?_
      | refine CV.skip ?_
      | (refine ⟨fun _ => ?_, fun _ => ?_⟩ <;> first | (exfalso; omega) | skip)
      | fail
    refine CV.loopc ?_
    refine WCv.rounds callees false (α := Nat × Value) (fun (i, q) => [(1, v), (2, .pointer (some ⟨b0, 0, none⟩)), (5, VI (repT gs plan plan.length k + repG gs plan (k : Int) i)), (6, VI k), (7, q), (8, VI i)]) (fun (i, q) Hz => i ≤ plan.length ∧ Own 3 Hz q ((metL gs plan (k : Int) i).map VI) Hx.n ∧ Keep Hx Hz) (fun (i, q) => plan.length - i) (0, nilS) (by repeat' first | exact trivial | refine ⟨rfl, ?_⟩ | refine ⟨slot_int (by (try simp only [Int.toNat_natCast]); omega), ?_⟩) ?_ ?_
    · exact ⟨by omega, .inl ⟨rfl, rfl⟩, Keep.refl _⟩
    rintro ⟨i, q⟩ Hy ⟨hi, hq, ky⟩ hBy
    have ly := ky.1
    have hvy : Ints Hy v plan := (hv0.keep kx).keep ky
    have hgy := (hg0x.keep kx).keep ky
    have hSy := (ky.2 b0 (by omega)).trans ((kx.2 b0 (by omega)).trans hg0)
    have hqb : ∀ c, blkOf q = some c → Hx.n ≤ c := fun c hc => (hq.lt hc).1
    by_cases hi2 : i < plan.length
    · have hig : i < gs.length := by omega
      have had := hgy.addr hig
      have hld := hgy.load hig
      have hml := metL_len (gs := gs) (plan := plan) (g := (k : Int)) (n := i)
      have hgb := repG_bd (gs := gs) (plan := plan) (g := (k : Int)) (n := i)
      have hpn : plan[(i : Int).toNat]! = plan[i]! := rfl
      repeat' first
        | refine CO.cons rfl ?_
        | refine CO.nil ?_
        | refine CV.seq ?_
        | refine CV.region callees ?_
        | refine CV.cond ?_
        | refine CV.block ?_
        | refine CV.skip ?_
        | refine ⟨_, ints_len (by assumption), ?_⟩
        | (refine ⟨_, fS fe1 (by decide), ?_⟩)
        | (refine ⟨_, cell_load agGr hSy rfl, ?_⟩)
        | (refine ⟨_, had, ?_⟩)
        | (refine ⟨_, hld, ?_⟩)
        | (refine ⟨fun _ => ?_, fun _ => ?_⟩ <;> first | (exfalso; omega) | skip)
        | fail
      refine (has_spec (t := (k : Int)) (by omega) (hgy.ints i hig) (hgl i hig)).mono ?_
      by_cases c1 : (k : Int) ∈ gs[i]!
      · rw [decide_eq_true c1]
        rintro r H2 ⟨rfl, rfl⟩
        have em : metL gs plan (k : Int) (i + 1) = metL gs plan (k : Int) i ++ [plan[i]!] := by rw [metL, if_pos c1]
        repeat' first
          | refine CO.cons rfl ?_
          | refine CO.nil ?_
          | refine CV.seq ?_
          | refine CV.region callees ?_
          | refine CV.cond ?_
          | refine CV.skip ?_
          | refine ⟨_, ints_addr (by assumption) (by omega) (by omega), ?_⟩
          | refine ⟨_, ints_load (by assumption) (by omega) (by omega), ?_⟩
          | fail
        refine (has_spec (t := plan[i]!) (by omega) (show Ints H2 q (metL gs plan (k : Int) i) from hq.row) (by omega)).mono ?_
        by_cases c2 : plan[i]! ∈ metL gs plan (k : Int) i
        · rw [decide_eq_true c2]
          rintro r H3 ⟨rfl, rfl⟩
          have er : repG gs plan (k : Int) (i + 1) = repG gs plan (k : Int) i + 1 := by rw [repG, if_pos ⟨c1, metL_mem.1 c2⟩]
          repeat' first
            | refine CO.cons rfl ?_
            | refine CO.nil ?_
            | refine CV.region callees ?_
            | refine CV.cond ?_
            | refine ⟨_, ints_addr (by assumption) (by omega) (by omega), ?_⟩
            | refine ⟨_, ints_load (by assumption) (by omega) (by omega), ?_⟩
            | refine ⟨(⟨by omega, by omega⟩ : inI64 _), ?_⟩
            | (refine ⟨_, _, build_one un22 one3 rfl, ?_⟩)
            | fail
          refine push_ask (y := plan[i]!) hq (by omega) (by omega) (by omega) ?_
          intro q6 H6 hq6 kb6 hf6
          repeat' first
            | refine CO.cons rfl ?_
            | refine CO.nil ?_
            | refine CV.region callees ?_
            | refine ⟨(⟨by omega, by omega⟩ : inI64 _), ?_⟩
            | fail
          refine ⟨(i + 1, q6), (by repeat' first | exact trivial | refine ⟨rfl, ?_⟩ | refine ⟨slot_int (by (try simp only [Int.toNat_natCast]); omega), ?_⟩), (by (try dsimp only); omega), ?_⟩
          exact ⟨by omega, by rw [em]; exact hq6, kb6.keep ky hqb⟩
        · rw [decide_eq_false c2]
          rintro r H3 ⟨rfl, rfl⟩
          have er : repG gs plan (k : Int) (i + 1) = repG gs plan (k : Int) i := by rw [repG, if_neg fun h => c2 (metL_mem.2 h.2), Int.add_zero]
          repeat' first
            | refine CO.cons rfl ?_
            | refine CO.nil ?_
            | refine CV.region callees ?_
            | refine CV.cond ?_
            | refine CV.skip ?_
            | refine ⟨_, ints_addr (by assumption) (by omega) (by omega), ?_⟩
            | refine ⟨_, ints_load (by assumption) (by omega) (by omega), ?_⟩
            | (refine ⟨_, _, build_one un22 one3 rfl, ?_⟩)
            | fail
          refine push_ask (y := plan[i]!) hq (by omega) (by omega) (by omega) ?_
          intro q6 H6 hq6 kb6 hf6
          repeat' first
            | refine CO.cons rfl ?_
            | refine CO.nil ?_
            | refine CV.region callees ?_
            | refine ⟨(⟨by omega, by omega⟩ : inI64 _), ?_⟩
            | fail
          refine ⟨(i + 1, q6), (by repeat' first | exact trivial | refine ⟨rfl, ?_⟩ | refine ⟨slot_int (by (try simp only [Int.toNat_natCast]); omega), ?_⟩), (by (try dsimp only); omega), ?_⟩
          exact ⟨by omega, by rw [em]; exact hq6, kb6.keep ky hqb⟩
      · rw [decide_eq_false c1]
        rintro r H2 ⟨rfl, rfl⟩
        have em : metL gs plan (k : Int) (i + 1) = metL gs plan (k : Int) i := by rw [metL, if_neg c1, List.append_nil]
        have er : repG gs plan (k : Int) (i + 1) = repG gs plan (k : Int) i := by rw [repG, if_neg fun h => c1 h.1, Int.add_zero]
        repeat' first
          | refine CO.cons rfl ?_
          | refine CO.nil ?_
          | refine CV.region callees ?_
          | refine CV.cond ?_
          | refine CV.exit ?_
          | refine ⟨(⟨by omega, by omega⟩ : inI64 _), ?_⟩
          | fail
        refine ⟨(i + 1, q), (by repeat' first | exact trivial | refine ⟨rfl, ?_⟩ | refine ⟨slot_int (by (try simp only [Int.toNat_natCast]); omega), ?_⟩), (by (try dsimp only); omega), ?_⟩
        exact ⟨by omega, by rw [em]; exact hq, ky⟩
    obtain rfl : i = plan.length := by omega
    have er : repT gs plan plan.length (k + 1) = repT gs plan plan.length k + repG gs plan (k : Int) plan.length := rfl
    repeat' first
      | refine CO.cons rfl ?_
      | refine CO.nil ?_
      | refine CV.seq ?_
      | refine CV.region callees ?_
      | refine CV.cond ?_
      | refine CV.exit ?_
      | refine ⟨_, ints_len (by assumption), ?_⟩
      | refine ⟨(⟨by omega, by omega⟩ : inI64 _), ?_⟩
      | (refine ⟨fun _ => ?_, fun _ => ?_⟩ <;> first | (exfalso; omega) | skip)
      | fail
    refine ⟨(k + 1), (by repeat' first | exact trivial | refine ⟨rfl, ?_⟩ | refine ⟨slot_int (by (try simp only [Int.toNat_natCast]); omega), ?_⟩), (by (try dsimp only); omega), ?_⟩
    exact ⟨by omega, kx.trans ky⟩
  obtain rfl : k = 12 := by omega
  repeat' first
    | refine CO.cons rfl ?_
    | refine CO.nil ?_
    | refine CV.seq ?_
    | refine CV.region callees ?_
    | refine CV.cond ?_
    | refine CV.exit ?_
    | refine CV.ret ?_
    | (refine ⟨fun _ => ?_, fun _ => ?_⟩ <;> first | (exfalso; omega) | skip)
    | fail
  exact ⟨rfl, rfl, k0.trans kx⟩
end Go.Proofs.Ytijimplcjaeneaa

