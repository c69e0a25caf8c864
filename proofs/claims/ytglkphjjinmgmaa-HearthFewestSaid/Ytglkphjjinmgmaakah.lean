
/- HearthFewest: the law's function. -/
import Derived.Test.Ytglkphjjinmgmaak9h
set_option linter.unusedVariables false
set_option linter.unusedSimpArgs false
namespace Go.Proofs.Ytglkphjjinmgmaa
open Go.AI
set_option maxHeartbeats 32000000 in
set_option maxRecDepth 100000 in
theorem fewestLaw_spec {v : Value} {H : Heap} {nums : List Int} (hv : Ints H v nums) (hx : nums.length ≤ 9223372036854775807) :
    CallB Try.prog H.n 11 [v] H (fun r _ => r = .bool true) := by
  have hn : H.n ≤ H.n := Nat.le_refl _
  refine CV.enter callees false rfl Try.func11 rfl (by kernel_rfl) (Nat.le_of_ble_eq_true rfl) hn ?_
  repeat' first
    | refine CO.cons rfl ?_
    | refine CO.nil ?_
    | refine CV.seq ?_
    | refine CV.region callees ?_
    | fail
  refine (boxOf_spec hn hv hx).mono ?_
  rintro r H1 ⟨⟨b, rfl, hb, hbox⟩, k1⟩
  have l1 := k1.1
  repeat' first
    | refine CO.cons rfl ?_
    | refine CO.nil ?_
    | refine CV.seq ?_
    | refine CV.region callees ?_
    | fail
  refine (fireOf_spec hb l1 hbox (by omega) (by omega)).mono ?_
  rintro r H2 ⟨⟨cv, tv, cs, ts, rfl, hc2, ht2, hf, hcn, hcs⟩, hb2, x2⟩
  have l2 := x2.1
  have hbn := hbox.1
  have hbn2 := hb2.1
  repeat' first
    | refine CO.cons rfl ?_
    | fail
  refine (kettleOf_spec hb (by omega) hb2).mono ?_
  rintro r H3 ⟨⟨k, rfl, hk, hwa⟩, hb3, x3⟩
  have l3 := x3.1
  have hc3 : OwnC H3 cv cs _ := OwnS.boxed hc2 x3 hb2
  have ht3 : OwnT H3 tv ts _ := OwnS.boxed ht2 x3 hb2
  repeat' first
    | refine CO.cons rfl ?_
    | (refine ⟨_, _, al28, ?_⟩)
    | fail
  generalize hs4 : Heap.new H3 _ = H4
  have hg4 := new_get hs4
  have k4 := new_keep hs4
  have n4 := new_n hs4
  obtain ⟨b4, hbn4⟩ : ∃ b, Heap.n H3 = b := ⟨_, rfl⟩
  rw [hbn4] at hg4 n4 ⊢
  repeat' first
    | refine CO.cons rfl ?_
    | (refine ⟨_, _, al51, ?_⟩)
    | fail
  generalize hs5 : Heap.new H4 _ = H5
  have hg5 := new_get hs5
  have k5 := new_keep hs5
  have n5 := new_n hs5
  obtain ⟨b5, hbn5⟩ : ∃ b, Heap.n H4 = b := ⟨_, rfl⟩
  rw [hbn5] at hg5 n5 ⊢
  have hg45 := (k5.2 b4 (by omega)).trans hg4
  repeat' first
    | fail
  refine ⟨_, _, st28 hc3.oneC ht3.oneC hg45, by omega, ?_⟩
  generalize hs6 : Heap.set H5 b4 _ = H6
  have hg6 : H6.get b4 = some (.cells (Fl cv tv) 25 1) := set_get hs6
  have n6 := set_n hs6
  have o6 := set_old hs6
  have hg56 := (o6 b5 (by omega)).trans hg5
  repeat' first
    | refine CO.cons rfl ?_
    | fail
  refine ⟨_, _, st51 hg56, by omega, ?_⟩
  generalize hs7 : Heap.set H6 b5 _ = H7
  have hg7 : H7.get b5 = some (.cells (Kel k) 29 1) := set_get hs7
  have n7 := set_n hs7
  have o7 := set_old hs7
  have hf7 := (o7 b4 (by omega)).trans hg6
  have k37 : Keep H3 H7 := keep_put (keep_put (k4.trans k5) (by omega) o6 n6) (by omega) o7 n7
  have l7 := k37.1
  have hb7 := hb3.keep k37
  have hc7 : OwnC H7 cv cs _ := OwnS.keep hc3 k37
  have ht7 : OwnT H7 tv ts _ := OwnS.keep ht3 k37
  repeat' first
    | refine CO.cons rfl ?_
    | refine CO.nil ?_
    | refine CV.seq ?_
    | refine CV.region callees ?_
    | (refine ⟨_, ld51 hg7, ?_⟩)
    | fail
  refine (poursOf_spec hb (by omega) hb7 hk (by omega) (by omega) (by omega) (by omega)).mono ?_
  rintro pv H8 ⟨⟨ps, hp8, hpo, hpn⟩, hb8, x8⟩
  have l8 := x8.1
  have hk8 := (x8.2 b5 (by omega) (by omega)).trans hg7
  have hf8 := (x8.2 b4 (by omega) (by omega)).trans hf7
  have hc8 : OwnC H8 cv cs _ := OwnS.boxed hc7 x8 hb7
  have ht8 : OwnT H8 tv ts _ := OwnS.boxed ht7 x8 hb7
  repeat' first
    | refine CO.cons rfl ?_
    | fail
  refine (up_spec hb (by omega) hb8 (by omega)).mono ?_
  rintro r H9 ⟨⟨fi, rfl, fi1, fi2⟩, hb9, x9⟩
  have l9 := x9.1
  obtain ⟨fr, hfr⟩ : ∃ fr : Nat, fi = (fr : Int) := ⟨fi.toNat, by omega⟩
  subst hfr
  have hk9 := (x9.2 b5 (by omega) (by omega)).trans hk8
  have hf9 := (x9.2 b4 (by omega) (by omega)).trans hf8
  have hc9 : OwnC H9 cv cs _ := OwnS.boxed hc8 x9 hb8
  have ht9 : OwnT H9 tv ts _ := OwnS.boxed ht8 x9 hb8
  have hp9 : OwnO H9 pv ps H7.n := OwnS.boxed hp8 x9 hb8
  repeat' first
    | refine CO.cons rfl ?_
    | refine CO.nil ?_
    | refine CV.seq ?_
    | refine CV.region callees ?_
    | fail
  refine (up_spec hb (by omega) hb9 (by omega)).mono ?_
  rintro r Ha ⟨⟨mi, rfl, mi1, mi2⟩, hba, xa⟩
  have la := xa.1
  obtain ⟨to, hto⟩ : ∃ to : Nat, (fr : Int) + mi = (to : Int) := ⟨((fr : Int) + mi).toNat, by omega⟩
  have hka := (xa.2 b5 (by omega) (by omega)).trans hk9
  have hfa := (xa.2 b4 (by omega) (by omega)).trans hf9
  have hca : OwnC Ha cv cs _ := OwnS.boxed hc9 xa hb9
  have hta : OwnT Ha tv ts _ := OwnS.boxed ht9 xa hb9
  have hpa : OwnO Ha pv ps H7.n := OwnS.boxed hp9 xa hb9
  repeat' first
    | refine CO.cons rfl ?_
    | refine CO.nil ?_
    | refine CV.seq ?_
    | refine CV.region callees ?_
    | refine ⟨(⟨by omega, by omega⟩ : inI64 _), ?_⟩
    | (refine ⟨_, ld51 hka, ?_⟩)
    | (refine ⟨_, ld28 hfa, ?_⟩)
    | fail
  rw [hto]
  refine (lay_spec (by omega) hk hca.row hta.row hpa.row hpo hpa.same hf (by omega) (by omega) (by omega)).mono ?_
  rintro r HL ⟨kL, hr⟩
  have lL := kL.1
  have hkL := (kL.2 b5 (by omega)).trans hka
  have hfL := (kL.2 b4 (by omega)).trans hfa
  have hcL : OwnC HL cv cs _ := OwnS.keep hca kL
  have htL : OwnT HL tv ts _ := OwnS.keep hta kL
  have hpL : OwnO HL pv ps H7.n := OwnS.keep hpa kL
  obtain ⟨En, hEn⟩ : ∃ En, enB k cs ts ps fr to = En := ⟨_, rfl⟩
  rw [hEn] at hr
  obtain ⟨qv, ch, e, rfl, hI, hcase⟩ : ∃ qv ch e, r = .tuple #[qv, VJ e] ∧ Ints HL qv ch ∧ ((e = 0 ∧ fewG En cs.length = some ch) ∨ (e = 7 ∧ ch = [] ∧ fewG En cs.length = none)) := by
    cases hfw : fewG En cs.length with
    | none =>
      rw [hfw] at hr
      exact ⟨nilS, [], 7, hr, .inl ⟨rfl, rfl⟩, .inr ⟨rfl, rfl, rfl⟩⟩
    | some s =>
      rw [hfw] at hr
      obtain ⟨q, rfl, hq⟩ := hr
      exact ⟨q, s, 0, rfl, hq, .inl ⟨rfl, rfl⟩⟩
  have hchl : ch.length ≤ 5 := by
    rcases hcase with ⟨_, h⟩ | ⟨_, h, _⟩
    · have := asc_len (Nat.zero_le _) (few_some h).1; omega
    · rw [h]; exact Nat.zero_le _
  have he0 : ch.length = 0 ∨ e = 0 := by
    rcases hcase with ⟨h, _⟩ | ⟨_, h, _⟩
    · exact .inr h
    · left; rw [h]; rfl
  have he07 : e = 0 ∨ e = 7 := by
    rcases hcase with ⟨h, _⟩ | ⟨h, _⟩
    · exact .inl h
    · exact .inr h
  -- each choice
  have hsm : ∀ {s : List Int}, Asc cs.length 0 s → En s = true → e = 0 ∧ (¬ s = ch → ch.length ≤ s.length ∧ (s.length = ch.length → lessB s ch = false)) := fun {s} ha hs => by
    rcases hcase with ⟨h, h1⟩ | ⟨_, _, h1⟩
    · exact ⟨h, fun _ => (few_some h1).2.2 s ha hs⟩
    · rw [few_none h1 s ha] at hs; cases hs
  have hch : e = 0 → Asc cs.length 0 ch ∧ En ch = true := fun h => by
    rcases hcase with ⟨_, h1⟩ | ⟨h2, _⟩
    · exact ⟨(few_some h1).1, (few_some h1).2.1⟩
    · omega
  clear hcase hr
  have hP : 2 ^ cs.length ≤ 32 := Nat.pow_le_pow_right (n := 2) (by decide) (show cs.length ≤ 5 by omega)
  obtain ⟨P, hPe⟩ : ∃ P, 2 ^ cs.length = P := ⟨_, rfl⟩
  rw [hPe] at hP
  rcases he07 with rfl | rfl
  · obtain ⟨hca1, hca2⟩ := hch rfl
    repeat' first
      | refine CO.cons rfl ?_
      | refine CO.nil ?_
      | refine CV.seq ?_
      | refine CV.region callees ?_
      | refine CV.cond ?_
      | refine CV.block ?_
      | refine CV.skip ?_
      | refine CO.consG rfl ?_
      | (refine ⟨fun _ => ?_, fun _ => ?_⟩ <;> first | (exfalso; omega) | skip)
      | fail
    refine CV.loopc ?_
    refine WCv.rounds callees false (α := Nat × Bool) (fun (x, fb) => [(3, bp b), (4, pt b4), (5, pt b5), (6, pv), (7, VJ fr), (8, VJ to), (9, qv), (10, VJ 0), (11, .bool fb), (12, VJ x)]) (fun (x, fb) Hz => x ≤ P ∧ (fb = true ↔ ∃ y, y < x ∧ En (pickB y cs.length) = true) ∧ Keep HL Hz) (fun (x, fb) => P - x) (0, false) (by repeat' first | exact trivial | refine ⟨rfl, ?_⟩ | refine ⟨slot_int (by (try simp only [Int.toNat_natCast]); omega), ?_⟩) ?_ ?_
    · exact ⟨Nat.zero_le _, ⟨fun h => (by cases h), fun ⟨y, h, _⟩ => absurd h (Nat.not_lt_zero _)⟩, Keep.refl _⟩
    rintro ⟨x, fb⟩ Hx ⟨hxP, hfb, kx⟩ hBx
    have lx := kx.1
    have hkx := (kx.2 b5 (by omega)).trans hkL
    have hfx := (kx.2 b4 (by omega)).trans hfL
    have hcx : OwnC Hx cv cs _ := OwnS.keep hcL kx
    have htx : OwnT Hx tv ts _ := OwnS.keep htL kx
    have hpx : OwnO Hx pv ps H7.n := OwnS.keep hpL kx
    have hIx : Ints Hx qv ch := Row.keep hI kx
    by_cases hx2 : x < P
    · repeat' first
        | refine CO.cons rfl ?_
        | refine CO.nil ?_
        | refine CV.seq ?_
        | refine CV.region callees ?_
        | refine CV.cond ?_
        | refine CV.block ?_
        | refine CV.skip ?_
        | (refine ⟨_, fS foF0 (by decide), ?_⟩)
        | (refine ⟨_, cell_load ag25 hfx rfl, ?_⟩)
        | (refine ⟨_, cs_len hcx.row, ?_⟩)
        | (refine ⟨_, fun tm ha => shlI rfl rfl (ev_tmp ha rfl) (by omega), ?_⟩)
        | (rw [hPe])
        | (refine ⟨fun _ => ?_, fun _ => ?_⟩ <;> first | (exfalso; omega) | skip)
        | fail
      refine CV.loopc ?_
      refine WCv.rounds callees false (α := Value × Nat) (fun (sv, i) => [(3, bp b), (4, pt b4), (5, pt b5), (6, pv), (7, VJ fr), (8, VJ to), (9, qv), (10, VJ 0), (11, .bool fb), (12, VJ x), (13, sv), (14, VJ i)]) (fun (sv, i) Hz => i ≤ cs.length ∧ Own 3 Hz sv ((pickB x i).map VJ) Hx.n ∧ Keep Hx Hz) (fun (sv, i) => cs.length - i) (nilS, 0) (by repeat' first | exact trivial | refine ⟨rfl, ?_⟩ | refine ⟨slot_int (by (try simp only [Int.toNat_natCast]); omega), ?_⟩) ?_ ?_
      · exact ⟨Nat.zero_le _, .inl ⟨rfl, rfl⟩, Keep.refl _⟩
      rintro ⟨sv, i⟩ Hy ⟨hi, hsv, ky⟩ hBy
      have ly := ky.1
      have hfy := (ky.2 b4 (by omega)).trans hfx
      have hky := (ky.2 b5 (by omega)).trans hkx
      have hcy : OwnC Hy cv cs _ := OwnS.keep hcx ky
      have hpl := pickB_len (x := x) (i := i)
      by_cases hi2 : i < cs.length
      · have hsh : x >>> i < 2 ^ 32 := by have := Nat.shiftRight_le x i; have h2 : (2 : Nat) ^ 32 = 4294967296 := (by decide); omega
        have hao := and_one (x := x) (i := i)
        cases hbt : x.testBit i
        · have ha0 : (((x >>> i) &&& 1 : Nat) : Int) = 0 := by rw [hao, hbt]; rfl
          repeat' first
            | refine CO.cons rfl ?_
            | refine CO.nil ?_
            | refine CV.seq ?_
            | refine CV.region callees ?_
            | refine CV.cond ?_
            | refine CV.block ?_
            | refine CV.skip ?_
            | refine ⟨(⟨by omega, by omega⟩ : inI64 _), ?_⟩
            | (refine ⟨_, fS foF0 (by decide), ?_⟩)
            | (refine ⟨_, cell_load ag25 hfy rfl, ?_⟩)
            | (refine ⟨_, cs_len hcy.row, ?_⟩)
            | (refine ⟨_, fun tm ha => shrI rfl (ev_tmp ha rfl) (ev_tmp ha rfl) (by omega), ?_⟩)
            | (refine ⟨_, fun tm ha => andIs (b := 1) rfl (ev_tmp ha rfl) rfl hsh (by decide), ?_⟩)
            | (rw [ha0])
            | (refine ⟨fun _ => ?_, fun _ => ?_⟩ <;> first | (exfalso; omega) | skip)
            | fail
          refine ⟨(sv, i + 1), (by repeat' first | exact trivial | refine ⟨rfl, ?_⟩ | refine ⟨slot_int (by (try simp only [Int.toNat_natCast]); omega), ?_⟩), (by (try dsimp only); omega), ?_⟩
          exact ⟨by omega, by rw [pickB_succ, hbt, if_neg (by simp), List.append_nil]; exact hsv, ky⟩
        · have ha0 : (((x >>> i) &&& 1 : Nat) : Int) = 1 := by rw [hao, hbt]; rfl
          repeat' first
            | refine CO.cons rfl ?_
            | refine CO.nil ?_
            | refine CV.seq ?_
            | refine CV.region callees ?_
            | refine CV.cond ?_
            | refine CV.block ?_
            | refine CV.skip ?_
            | (refine ⟨_, fS foF0 (by decide), ?_⟩)
            | (refine ⟨_, cell_load ag25 hfy rfl, ?_⟩)
            | (refine ⟨_, cs_len hcy.row, ?_⟩)
            | (refine ⟨_, fun tm ha => shrI rfl (ev_tmp ha rfl) (ev_tmp ha rfl) (by omega), ?_⟩)
            | (refine ⟨_, fun tm ha => andIs (b := 1) rfl (ev_tmp ha rfl) rfl hsh (by decide), ?_⟩)
            | (rw [ha0])
            | (refine ⟨_, _, build_one un22 one3 rfl, ?_⟩)
            | (refine ⟨fun _ => ?_, fun _ => ?_⟩ <;> first | (exfalso; omega) | skip)
            | fail
          refine push_ask (y := (i : Int)) hsv (by omega) (by omega) (by omega) ?_
          intro q' Hq hq' kb hfq
          have lq := kb.le
          repeat' first
            | refine CO.cons rfl ?_
            | refine CO.nil ?_
            | refine CV.region callees ?_
            | refine ⟨(⟨by omega, by omega⟩ : inI64 _), ?_⟩
            | fail
          refine ⟨(q', i + 1), (by repeat' first | exact trivial | refine ⟨rfl, ?_⟩ | refine ⟨slot_int (by (try simp only [Int.toNat_natCast]); omega), ?_⟩), (by (try dsimp only); omega), ?_⟩
          exact ⟨by omega, by rw [pickB_succ, hbt, if_pos rfl]; exact hq', kb.keep ky fun c hc => (hsv.lt hc).1⟩
      obtain rfl : i = cs.length := by omega
      have hty : OwnT Hy tv ts _ := OwnS.keep htx ky
      have hpy : OwnO Hy pv ps H7.n := OwnS.keep hpx ky
      have hpa := pickB_asc (x := x) (n := cs.length) (Nat.le_refl cs.length)
      have hfo := only_ok hf hpa
      obtain ⟨B0, h0⟩ := isBeg_ex (e := 0) hfo
      obtain ⟨B1, h1⟩ := isBeg_ex (e := 1) hfo
      repeat' first
        | refine CO.cons rfl ?_
        | refine CO.nil ?_
        | refine CV.seq ?_
        | refine CV.region callees ?_
        | refine CV.cond ?_
        | refine CV.exit ?_
        | refine CG.cons rfl ?_
        | refine CV.wide callees (by decide +kernel) [0, 1, 2, 4, 5, 3, 6, 7, 8, 9, 10, 11] (by kernel_rfl) ?_
        | (refine ⟨_, fS foF0 (by decide), ?_⟩)
        | (refine ⟨_, cell_load ag25 hfy rfl, ?_⟩)
        | (refine ⟨_, cs_len hcy.row, ?_⟩)
        | (refine ⟨_, ld51 hky, ?_⟩)
        | (refine ⟨_, ld28 hfy, ?_⟩)
        | (refine ⟨fun _ => ?_, fun _ => ?_⟩ <;> first | (exfalso; omega) | skip)
        | fail
      refine (onlyR_spec (Nat.le_refl _) hcy.row hty.row hsv.row hf hpa).mono ?_
      rintro r HA ⟨⟨u, w, rfl, hu, hw⟩, kA⟩
      repeat' first
        | refine CG.cons rfl ?_
        | fail
      refine (sings_spec (m := to) (Nat.le_refl _) hk hu.row hw.row (OwnS.keep hpy kA).row hpo hpy.same hfo h0 h1 (by omega)).mono ?_
      rintro r HB ⟨⟨vv, rfl, hvv⟩, kB⟩
      have lA := kA.1
      have lB := kB.1
      have hen := enB_drop (k := k) (ps := ps) (fr := fr) (to := to) hf hpa h0 h1
      have hvl := verL_len (k := k) (E := emL (onlyC cs (pickB x cs.length)) B0 B1) (ps := ps) (n := to + 1)
      obtain ⟨V, hV⟩ : ∃ V, verL k (emL (onlyC cs (pickB x cs.length)) B0 B1) ps (to + 1) = V := ⟨_, rfl⟩
      rw [hV] at hen hvl hvv
      rw [hEn] at hen
      have hvi : Ints HB vv V := hvv.row
      obtain ⟨z, hz, hzr⟩ := row_slice_lo (i := (fr : Int)) (kd := .i64) un22 sz3 hvi (by omega) (by rw [List.length_map]; omega)
      rw [← List.map_drop, show ((fr : Int)).toNat = fr from rfl] at hzr
      have hzi : Ints HB z (V.drop fr) := hzr
      have hsvB : Ints HB sv (pickB x cs.length) := Row.keep hsv.row (kA.trans kB)
      have hIB : Ints HB qv ch := Row.keep hIx (ky.trans (kA.trans kB))
      have kBB : Keep HL HB := kx.trans (ky.trans (kA.trans kB))
      obtain ⟨S, hS⟩ : ∃ S, pickB x cs.length = S := ⟨_, rfl⟩
      have hnx : ∀ {g : Bool}, (g = true ↔ En S = true) → ((fb || g) = true ↔ ∃ y, y < x + 1 ∧ En (pickB y cs.length) = true) := fun {g} hg => by
        rw [Bool.or_eq_true, hfb, hg]
        constructor
        · rintro (⟨y, h1, h2⟩ | h)
          · exact ⟨y, by omega, h2⟩
          · exact ⟨x, by omega, by rw [hS]; exact h⟩
        · rintro ⟨y, h1, h2⟩
          by_cases e : y = x
          · right; rw [← hS, ← e]; exact h2
          · left; exact ⟨y, by omega, h2⟩
      rw [hS] at hsvB hpa hen hpl
      repeat' first
        | refine CO.cons rfl ?_
        | refine CO.nil ?_
        | refine CV.seq ?_
        | refine CV.region callees ?_
        | refine CV.cond ?_
        | refine CV.skip ?_
        | refine CO.consG rfl ?_
        | refine CG.cons rfl ?_
        | refine CG.nil ?_
        | refine ⟨_, ints_len (by assumption), ?_⟩
        | refine ⟨(⟨by omega, by omega⟩ : inI64 _), ?_⟩
        | (refine ⟨_, hz, ?_⟩)
        | (refine ⟨fun _ => ?_, fun _ => ?_⟩ <;> first | (exfalso; omega) | skip)
        | fail
      refine (has_spec (by omega) hzi (by rw [List.length_drop]; omega)).mono ?_
      rintro r HC ⟨rfl, rfl⟩
      by_cases d2 : (2 : Int) ∈ V.drop fr
      · rw [decide_eq_true d2] at hen ⊢
        have hg : En S = false := by rw [hen]; rfl
        have hne : ¬ S = ch := fun h => by rw [h, hca2] at hg; cases hg
        cases fb
        all_goals
          repeat' first
            | refine CO.cons rfl ?_
            | refine CO.nil ?_
            | refine CV.seq ?_
            | refine CV.region callees ?_
            | refine CO.consG rfl ?_
            | (refine ⟨fun _ => ?_, fun _ => ?_⟩ <;> first | (exfalso; omega) | skip)
            | fail
          refine (eqInts_spec (by omega) hsvB hIB (by omega)).mono ?_
          rw [decide_eq_false hne]
          rintro r HD ⟨rfl, kD⟩
          repeat' first
            | refine CO.cons rfl ?_
            | refine CO.nil ?_
            | refine CV.seq ?_
            | refine CV.region callees ?_
            | refine CV.cond ?_
            | refine CV.skip ?_
            | refine CO.consG rfl ?_
            | refine ⟨(⟨by omega, by omega⟩ : inI64 _), ?_⟩
            | fail
        · refine ⟨(x + 1, false), (by repeat' first | exact trivial | refine ⟨rfl, ?_⟩ | refine ⟨slot_int (by (try simp only [Int.toNat_natCast]); omega), ?_⟩), (by (try dsimp only); omega), ?_⟩
          exact ⟨by omega, by have := hnx (g := false) ⟨fun h => (by cases h), fun h => by rw [hg] at h; cases h⟩; exact this, kBB.trans kD⟩
        · refine ⟨(x + 1, true), (by repeat' first | exact trivial | refine ⟨rfl, ?_⟩ | refine ⟨slot_int (by (try simp only [Int.toNat_natCast]); omega), ?_⟩), (by (try dsimp only); omega), ?_⟩
          exact ⟨by omega, by have := hnx (g := false) ⟨fun h => (by cases h), fun h => by rw [hg] at h; cases h⟩; exact this, kBB.trans kD⟩
      rw [decide_eq_false d2] at hen ⊢
      repeat' first
        | refine CO.cons rfl ?_
        | refine CO.consG rfl ?_
        | (refine ⟨_, hz, ?_⟩)
        | fail
      refine (has_spec (by omega) hzi (by rw [List.length_drop]; omega)).mono ?_
      rintro r HE ⟨rfl, rfl⟩
      by_cases d3 : (3 : Int) ∈ V.drop fr
      · rw [decide_eq_true d3] at hen ⊢
        have hg : En S = false := by rw [hen]; rfl
        have hne : ¬ S = ch := fun h => by rw [h, hca2] at hg; cases hg
        cases fb
        all_goals
          repeat' first
            | refine CO.cons rfl ?_
            | refine CO.nil ?_
            | refine CV.seq ?_
            | refine CV.region callees ?_
            | refine CO.consG rfl ?_
            | (refine ⟨fun _ => ?_, fun _ => ?_⟩ <;> first | (exfalso; omega) | skip)
            | fail
          refine (eqInts_spec (by omega) hsvB hIB (by omega)).mono ?_
          rw [decide_eq_false hne]
          rintro r HD ⟨rfl, kD⟩
          repeat' first
            | refine CO.cons rfl ?_
            | refine CO.nil ?_
            | refine CV.seq ?_
            | refine CV.region callees ?_
            | refine CV.cond ?_
            | refine CV.skip ?_
            | refine CO.consG rfl ?_
            | refine ⟨(⟨by omega, by omega⟩ : inI64 _), ?_⟩
            | fail
        · refine ⟨(x + 1, false), (by repeat' first | exact trivial | refine ⟨rfl, ?_⟩ | refine ⟨slot_int (by (try simp only [Int.toNat_natCast]); omega), ?_⟩), (by (try dsimp only); omega), ?_⟩
          exact ⟨by omega, by have := hnx (g := false) ⟨fun h => (by cases h), fun h => by rw [hg] at h; cases h⟩; exact this, kBB.trans kD⟩
        · refine ⟨(x + 1, true), (by repeat' first | exact trivial | refine ⟨rfl, ?_⟩ | refine ⟨slot_int (by (try simp only [Int.toNat_natCast]); omega), ?_⟩), (by (try dsimp only); omega), ?_⟩
          exact ⟨by omega, by have := hnx (g := false) ⟨fun h => (by cases h), fun h => by rw [hg] at h; cases h⟩; exact this, kBB.trans kD⟩
      rw [decide_eq_false d3] at hen ⊢
      have hg : En S = true := by rw [hen]; rfl
      have hmin := (hsm hpa hg).2
      have hnx1 : true = true ↔ ∃ y, y < x + 1 ∧ En (pickB y cs.length) = true := by
        have := hnx (g := true) ⟨fun _ => hg, fun _ => rfl⟩
        rwa [Bool.or_true] at this
      by_cases hsame : S = ch
      · cases fb
        all_goals
          repeat' first
            | refine CO.cons rfl ?_
            | refine CO.nil ?_
            | refine CV.seq ?_
            | refine CV.region callees ?_
            | refine CO.consG rfl ?_
            | (refine ⟨fun _ => ?_, fun _ => ?_⟩ <;> first | (exfalso; omega) | skip)
            | fail
          refine (eqInts_spec (by omega) hsvB hIB (by omega)).mono ?_
          rw [decide_eq_true hsame]
          rintro r HD ⟨rfl, kD⟩
          repeat' first
            | refine CO.cons rfl ?_
            | refine CO.nil ?_
            | refine CV.seq ?_
            | refine CV.region callees ?_
            | refine CV.cond ?_
            | refine CV.skip ?_
            | refine CO.consG rfl ?_
            | refine ⟨(⟨by omega, by omega⟩ : inI64 _), ?_⟩
            | fail
          refine ⟨(x + 1, true), (by repeat' first | exact trivial | refine ⟨rfl, ?_⟩ | refine ⟨slot_int (by (try simp only [Int.toNat_natCast]); omega), ?_⟩), (by (try dsimp only); omega), ?_⟩
          exact ⟨by omega, hnx1, kBB.trans kD⟩
      · obtain ⟨m1, m2⟩ := hmin hsame
        cases fb
        all_goals
          repeat' first
            | refine CO.cons rfl ?_
            | refine CO.nil ?_
            | refine CV.seq ?_
            | refine CV.region callees ?_
            | refine CO.consG rfl ?_
            | (refine ⟨fun _ => ?_, fun _ => ?_⟩ <;> first | (exfalso; omega) | skip)
            | fail
          refine (eqInts_spec (by omega) hsvB hIB (by omega)).mono ?_
          rw [decide_eq_false hsame]
          rintro r HD ⟨rfl, kD⟩
          have lD := kD.1
          have hsvD : Ints HD sv S := Row.keep hsvB kD
          have hID : Ints HD qv ch := Row.keep hIB kD
          by_cases hl : S.length = ch.length
          · repeat' first
              | refine CO.cons rfl ?_
              | refine CO.nil ?_
              | refine CV.seq ?_
              | refine CV.region callees ?_
              | refine CO.consG rfl ?_
              | refine ⟨_, ints_len (by assumption), ?_⟩
              | (refine ⟨fun _ => ?_, fun _ => ?_⟩ <;> first | (exfalso; omega) | skip)
              | fail
            refine (less_spec (by omega) hsvD hID hl (by omega)).mono ?_
            rw [m2 hl]
            rintro r HF ⟨rfl, kF⟩
            repeat' first
              | refine CO.cons rfl ?_
              | refine CO.nil ?_
              | refine CV.region callees ?_
              | refine CV.cond ?_
              | refine CV.skip ?_
              | refine CO.consG rfl ?_
              | refine ⟨(⟨by omega, by omega⟩ : inI64 _), ?_⟩
              | fail
            refine ⟨(x + 1, true), (by repeat' first | exact trivial | refine ⟨rfl, ?_⟩ | refine ⟨slot_int (by (try simp only [Int.toNat_natCast]); omega), ?_⟩), (by (try dsimp only); omega), ?_⟩
            exact ⟨by omega, hnx1, (kBB.trans kD).trans kF⟩
          · repeat' first
              | refine CO.cons rfl ?_
              | refine CO.nil ?_
              | refine CV.seq ?_
              | refine CV.region callees ?_
              | refine CV.cond ?_
              | refine CV.skip ?_
              | refine CO.consG rfl ?_
              | refine ⟨_, ints_len (by assumption), ?_⟩
              | refine ⟨(⟨by omega, by omega⟩ : inI64 _), ?_⟩
              | (refine ⟨fun _ => ?_, fun _ => ?_⟩ <;> first | (exfalso; omega) | skip)
              | fail
            refine ⟨(x + 1, true), (by repeat' first | exact trivial | refine ⟨rfl, ?_⟩ | refine ⟨slot_int (by (try simp only [Int.toNat_natCast]); omega), ?_⟩), (by (try dsimp only); omega), ?_⟩
            exact ⟨by omega, hnx1, kBB.trans kD⟩
    obtain rfl : x = P := by omega
    have hft : fb = true := hfb.2 ⟨setOf ch, by rw [← hPe]; exact setOf_lt hca1, by rw [pick_set hca1]; exact hca2⟩
    subst hft
    repeat' first
      | refine CO.cons rfl ?_
      | refine CO.nil ?_
      | refine CV.seq ?_
      | refine CV.region callees ?_
      | refine CV.cond ?_
      | refine CV.exit ?_
      | refine CO.consG rfl ?_
      | (refine ⟨_, fS foF0 (by decide), ?_⟩)
      | (refine ⟨_, cell_load ag25 hfx rfl, ?_⟩)
      | (refine ⟨_, cs_len hcx.row, ?_⟩)
      | (refine ⟨_, fun tm ha => shlI rfl rfl (ev_tmp ha rfl) (by omega), ?_⟩)
      | (rw [hPe])
      | (refine ⟨_, fun tm ha => step1_boolEql un4 rfl (ev_tmp ha rfl) (ev_tmp ha rfl), ?_⟩)
      | (refine ⟨fun _ => ?_, fun _ => ?_⟩ <;> first | (exfalso; omega) | skip)
      | fail
    refine (awake_spec (by omega)).mono ?_
    rintro r HG ⟨rfl, kG⟩
    repeat' first
      | refine CO.cons rfl ?_
      | refine CO.nil ?_
      | refine CV.ret ?_
      | fail
    exact ⟨rfl, rfl⟩
  · repeat' first
      | refine CO.cons rfl ?_
      | refine CO.nil ?_
      | refine CV.seq ?_
      | refine CV.region callees ?_
      | refine CV.cond ?_
      | refine CV.block ?_
      | refine CV.skip ?_
      | refine CO.consG rfl ?_
      | refine ⟨_, ints_len (by assumption), ?_⟩
      | (refine ⟨fun _ => ?_, fun _ => ?_⟩ <;> first | (exfalso; omega) | skip)
      | fail
    refine CV.loopc ?_
    refine WCv.rounds callees false (α := Nat × Bool) (fun (x, fb) => [(3, bp b), (4, pt b4), (5, pt b5), (6, pv), (7, VJ fr), (8, VJ to), (9, qv), (10, VJ 7), (11, .bool fb), (12, VJ x)]) (fun (x, fb) Hz => x ≤ P ∧ (fb = true ↔ ∃ y, y < x ∧ En (pickB y cs.length) = true) ∧ Keep HL Hz) (fun (x, fb) => P - x) (0, false) (by repeat' first | exact trivial | refine ⟨rfl, ?_⟩ | refine ⟨slot_int (by (try simp only [Int.toNat_natCast]); omega), ?_⟩) ?_ ?_
    · exact ⟨Nat.zero_le _, ⟨fun h => (by cases h), fun ⟨y, h, _⟩ => absurd h (Nat.not_lt_zero _)⟩, Keep.refl _⟩
    rintro ⟨x, fb⟩ Hx ⟨hxP, hfb, kx⟩ hBx
    have lx := kx.1
    have hkx := (kx.2 b5 (by omega)).trans hkL
    have hfx := (kx.2 b4 (by omega)).trans hfL
    have hcx : OwnC Hx cv cs _ := OwnS.keep hcL kx
    have htx : OwnT Hx tv ts _ := OwnS.keep htL kx
    have hpx : OwnO Hx pv ps H7.n := OwnS.keep hpL kx
    have hIx : Ints Hx qv ch := Row.keep hI kx
    by_cases hx2 : x < P
    · repeat' first
        | refine CO.cons rfl ?_
        | refine CO.nil ?_
        | refine CV.seq ?_
        | refine CV.region callees ?_
        | refine CV.cond ?_
        | refine CV.block ?_
        | refine CV.skip ?_
        | (refine ⟨_, fS foF0 (by decide), ?_⟩)
        | (refine ⟨_, cell_load ag25 hfx rfl, ?_⟩)
        | (refine ⟨_, cs_len hcx.row, ?_⟩)
        | (refine ⟨_, fun tm ha => shlI rfl rfl (ev_tmp ha rfl) (by omega), ?_⟩)
        | (rw [hPe])
        | (refine ⟨fun _ => ?_, fun _ => ?_⟩ <;> first | (exfalso; omega) | skip)
        | fail
      refine CV.loopc ?_
      refine WCv.rounds callees false (α := Value × Nat) (fun (sv, i) => [(3, bp b), (4, pt b4), (5, pt b5), (6, pv), (7, VJ fr), (8, VJ to), (9, qv), (10, VJ 7), (11, .bool fb), (12, VJ x), (13, sv), (14, VJ i)]) (fun (sv, i) Hz => i ≤ cs.length ∧ Own 3 Hz sv ((pickB x i).map VJ) Hx.n ∧ Keep Hx Hz) (fun (sv, i) => cs.length - i) (nilS, 0) (by repeat' first | exact trivial | refine ⟨rfl, ?_⟩ | refine ⟨slot_int (by (try simp only [Int.toNat_natCast]); omega), ?_⟩) ?_ ?_
      · exact ⟨Nat.zero_le _, .inl ⟨rfl, rfl⟩, Keep.refl _⟩
      rintro ⟨sv, i⟩ Hy ⟨hi, hsv, ky⟩ hBy
      have ly := ky.1
      have hfy := (ky.2 b4 (by omega)).trans hfx
      have hky := (ky.2 b5 (by omega)).trans hkx
      have hcy : OwnC Hy cv cs _ := OwnS.keep hcx ky
      have hpl := pickB_len (x := x) (i := i)
      by_cases hi2 : i < cs.length
      · have hsh : x >>> i < 2 ^ 32 := by have := Nat.shiftRight_le x i; have h2 : (2 : Nat) ^ 32 = 4294967296 := (by decide); omega
        have hao := and_one (x := x) (i := i)
        cases hbt : x.testBit i
        · have ha0 : (((x >>> i) &&& 1 : Nat) : Int) = 0 := by rw [hao, hbt]; rfl
          repeat' first
            | refine CO.cons rfl ?_
            | refine CO.nil ?_
            | refine CV.seq ?_
            | refine CV.region callees ?_
            | refine CV.cond ?_
            | refine CV.block ?_
            | refine CV.skip ?_
            | refine ⟨(⟨by omega, by omega⟩ : inI64 _), ?_⟩
            | (refine ⟨_, fS foF0 (by decide), ?_⟩)
            | (refine ⟨_, cell_load ag25 hfy rfl, ?_⟩)
            | (refine ⟨_, cs_len hcy.row, ?_⟩)
            | (refine ⟨_, fun tm ha => shrI rfl (ev_tmp ha rfl) (ev_tmp ha rfl) (by omega), ?_⟩)
            | (refine ⟨_, fun tm ha => andIs (b := 1) rfl (ev_tmp ha rfl) rfl hsh (by decide), ?_⟩)
            | (rw [ha0])
            | (refine ⟨fun _ => ?_, fun _ => ?_⟩ <;> first | (exfalso; omega) | skip)
            | fail
          refine ⟨(sv, i + 1), (by repeat' first | exact trivial | refine ⟨rfl, ?_⟩ | refine ⟨slot_int (by (try simp only [Int.toNat_natCast]); omega), ?_⟩), (by (try dsimp only); omega), ?_⟩
          exact ⟨by omega, by rw [pickB_succ, hbt, if_neg (by simp), List.append_nil]; exact hsv, ky⟩
        · have ha0 : (((x >>> i) &&& 1 : Nat) : Int) = 1 := by rw [hao, hbt]; rfl
          repeat' first
            | refine CO.cons rfl ?_
            | refine CO.nil ?_
            | refine CV.seq ?_
            | refine CV.region callees ?_
            | refine CV.cond ?_
            | refine CV.block ?_
            | refine CV.skip ?_
            | (refine ⟨_, fS foF0 (by decide), ?_⟩)
            | (refine ⟨_, cell_load ag25 hfy rfl, ?_⟩)
            | (refine ⟨_, cs_len hcy.row, ?_⟩)
            | (refine ⟨_, fun tm ha => shrI rfl (ev_tmp ha rfl) (ev_tmp ha rfl) (by omega), ?_⟩)
            | (refine ⟨_, fun tm ha => andIs (b := 1) rfl (ev_tmp ha rfl) rfl hsh (by decide), ?_⟩)
            | (rw [ha0])
            | (refine ⟨_, _, build_one un22 one3 rfl, ?_⟩)
            | (refine ⟨fun _ => ?_, fun _ => ?_⟩ <;> first | (exfalso; omega) | skip)
            | fail
          refine push_ask (y := (i : Int)) hsv (by omega) (by omega) (by omega) ?_
          intro q' Hq hq' kb hfq
          have lq := kb.le
          repeat' first
            | refine CO.cons rfl ?_
            | refine CO.nil ?_
            | refine CV.region callees ?_
            | refine ⟨(⟨by omega, by omega⟩ : inI64 _), ?_⟩
            | fail
          refine ⟨(q', i + 1), (by repeat' first | exact trivial | refine ⟨rfl, ?_⟩ | refine ⟨slot_int (by (try simp only [Int.toNat_natCast]); omega), ?_⟩), (by (try dsimp only); omega), ?_⟩
          exact ⟨by omega, by rw [pickB_succ, hbt, if_pos rfl]; exact hq', kb.keep ky fun c hc => (hsv.lt hc).1⟩
      obtain rfl : i = cs.length := by omega
      have hty : OwnT Hy tv ts _ := OwnS.keep htx ky
      have hpy : OwnO Hy pv ps H7.n := OwnS.keep hpx ky
      have hpa := pickB_asc (x := x) (n := cs.length) (Nat.le_refl cs.length)
      have hfo := only_ok hf hpa
      obtain ⟨B0, h0⟩ := isBeg_ex (e := 0) hfo
      obtain ⟨B1, h1⟩ := isBeg_ex (e := 1) hfo
      repeat' first
        | refine CO.cons rfl ?_
        | refine CO.nil ?_
        | refine CV.seq ?_
        | refine CV.region callees ?_
        | refine CV.cond ?_
        | refine CV.exit ?_
        | refine CG.cons rfl ?_
        | refine CV.wide callees (by decide +kernel) [0, 1, 2, 4, 5, 3, 6, 7, 8, 9, 10, 11] (by kernel_rfl) ?_
        | (refine ⟨_, fS foF0 (by decide), ?_⟩)
        | (refine ⟨_, cell_load ag25 hfy rfl, ?_⟩)
        | (refine ⟨_, cs_len hcy.row, ?_⟩)
        | (refine ⟨_, ld51 hky, ?_⟩)
        | (refine ⟨_, ld28 hfy, ?_⟩)
        | (refine ⟨fun _ => ?_, fun _ => ?_⟩ <;> first | (exfalso; omega) | skip)
        | fail
      refine (onlyR_spec (Nat.le_refl _) hcy.row hty.row hsv.row hf hpa).mono ?_
      rintro r HA ⟨⟨u, w, rfl, hu, hw⟩, kA⟩
      repeat' first
        | refine CG.cons rfl ?_
        | fail
      refine (sings_spec (m := to) (Nat.le_refl _) hk hu.row hw.row (OwnS.keep hpy kA).row hpo hpy.same hfo h0 h1 (by omega)).mono ?_
      rintro r HB ⟨⟨vv, rfl, hvv⟩, kB⟩
      have lA := kA.1
      have lB := kB.1
      have hen := enB_drop (k := k) (ps := ps) (fr := fr) (to := to) hf hpa h0 h1
      have hvl := verL_len (k := k) (E := emL (onlyC cs (pickB x cs.length)) B0 B1) (ps := ps) (n := to + 1)
      obtain ⟨V, hV⟩ : ∃ V, verL k (emL (onlyC cs (pickB x cs.length)) B0 B1) ps (to + 1) = V := ⟨_, rfl⟩
      rw [hV] at hen hvl hvv
      rw [hEn] at hen
      have hvi : Ints HB vv V := hvv.row
      obtain ⟨z, hz, hzr⟩ := row_slice_lo (i := (fr : Int)) (kd := .i64) un22 sz3 hvi (by omega) (by rw [List.length_map]; omega)
      rw [← List.map_drop, show ((fr : Int)).toNat = fr from rfl] at hzr
      have hzi : Ints HB z (V.drop fr) := hzr
      have hsvB : Ints HB sv (pickB x cs.length) := Row.keep hsv.row (kA.trans kB)
      have hIB : Ints HB qv ch := Row.keep hIx (ky.trans (kA.trans kB))
      have kBB : Keep HL HB := kx.trans (ky.trans (kA.trans kB))
      obtain ⟨S, hS⟩ : ∃ S, pickB x cs.length = S := ⟨_, rfl⟩
      have hnx : ∀ {g : Bool}, (g = true ↔ En S = true) → ((fb || g) = true ↔ ∃ y, y < x + 1 ∧ En (pickB y cs.length) = true) := fun {g} hg => by
        rw [Bool.or_eq_true, hfb, hg]
        constructor
        · rintro (⟨y, h1, h2⟩ | h)
          · exact ⟨y, by omega, h2⟩
          · exact ⟨x, by omega, by rw [hS]; exact h⟩
        · rintro ⟨y, h1, h2⟩
          by_cases e : y = x
          · right; rw [← hS, ← e]; exact h2
          · left; exact ⟨y, by omega, h2⟩
      rw [hS] at hsvB hpa hen hpl
      repeat' first
        | refine CO.cons rfl ?_
        | refine CO.nil ?_
        | refine CV.seq ?_
        | refine CV.region callees ?_
        | refine CV.cond ?_
        | refine CV.skip ?_
        | refine CO.consG rfl ?_
        | refine CG.cons rfl ?_
        | refine CG.nil ?_
        | refine ⟨_, ints_len (by assumption), ?_⟩
        | refine ⟨(⟨by omega, by omega⟩ : inI64 _), ?_⟩
        | (refine ⟨_, hz, ?_⟩)
        | (refine ⟨fun _ => ?_, fun _ => ?_⟩ <;> first | (exfalso; omega) | skip)
        | fail
      refine (has_spec (by omega) hzi (by rw [List.length_drop]; omega)).mono ?_
      rintro r HC ⟨rfl, rfl⟩
      have hg : En S = false := by
        cases h : En S with
        | false => rfl
        | true => exact absurd (hsm hpa h).1 (by decide)
      by_cases d2 : (2 : Int) ∈ V.drop fr
      · rw [decide_eq_true d2]
        cases fb
        all_goals
          repeat' first
            | refine CO.cons rfl ?_
            | refine CO.nil ?_
            | refine CV.seq ?_
            | refine CV.region callees ?_
            | refine CV.cond ?_
            | refine CV.skip ?_
            | refine CO.consG rfl ?_
            | refine ⟨(⟨by omega, by omega⟩ : inI64 _), ?_⟩
            | (refine ⟨fun _ => ?_, fun _ => ?_⟩ <;> first | (exfalso; omega) | skip)
            | fail
        · refine ⟨(x + 1, false), (by repeat' first | exact trivial | refine ⟨rfl, ?_⟩ | refine ⟨slot_int (by (try simp only [Int.toNat_natCast]); omega), ?_⟩), (by (try dsimp only); omega), ?_⟩
          exact ⟨by omega, by have := hnx (g := false) ⟨fun h => (by cases h), fun h => by rw [hg] at h; cases h⟩; exact this, kBB⟩
        · refine ⟨(x + 1, true), (by repeat' first | exact trivial | refine ⟨rfl, ?_⟩ | refine ⟨slot_int (by (try simp only [Int.toNat_natCast]); omega), ?_⟩), (by (try dsimp only); omega), ?_⟩
          exact ⟨by omega, by have := hnx (g := false) ⟨fun h => (by cases h), fun h => by rw [hg] at h; cases h⟩; exact this, kBB⟩
      rw [decide_eq_false d2] at hen ⊢
      have d3 : (3 : Int) ∈ V.drop fr := by
        apply Classical.byContradiction
        intro d3
        rw [decide_eq_false d3, hg] at hen; cases hen
      repeat' first
        | refine CO.cons rfl ?_
        | refine CO.consG rfl ?_
        | (refine ⟨_, hz, ?_⟩)
        | fail
      refine (has_spec (by omega) hzi (by rw [List.length_drop]; omega)).mono ?_
      rintro r HE ⟨rfl, rfl⟩
      rw [decide_eq_true d3]
      cases fb
      all_goals
        repeat' first
          | refine CO.cons rfl ?_
          | refine CO.nil ?_
          | refine CV.seq ?_
          | refine CV.region callees ?_
          | refine CV.cond ?_
          | refine CV.skip ?_
          | refine CO.consG rfl ?_
          | refine ⟨(⟨by omega, by omega⟩ : inI64 _), ?_⟩
          | (refine ⟨fun _ => ?_, fun _ => ?_⟩ <;> first | (exfalso; omega) | skip)
          | fail
      · refine ⟨(x + 1, false), (by repeat' first | exact trivial | refine ⟨rfl, ?_⟩ | refine ⟨slot_int (by (try simp only [Int.toNat_natCast]); omega), ?_⟩), (by (try dsimp only); omega), ?_⟩
        exact ⟨by omega, by have := hnx (g := false) ⟨fun h => (by cases h), fun h => by rw [hg] at h; cases h⟩; exact this, kBB⟩
      · refine ⟨(x + 1, true), (by repeat' first | exact trivial | refine ⟨rfl, ?_⟩ | refine ⟨slot_int (by (try simp only [Int.toNat_natCast]); omega), ?_⟩), (by (try dsimp only); omega), ?_⟩
        exact ⟨by omega, by have := hnx (g := false) ⟨fun h => (by cases h), fun h => by rw [hg] at h; cases h⟩; exact this, kBB⟩
    obtain rfl : x = P := by omega
    have hft : fb = false := by
      cases fb with
      | false => rfl
      | true =>
        obtain ⟨y, hy, h⟩ := hfb.1 rfl
        exact absurd (hsm (pickB_asc (Nat.le_refl _)) h).1 (by decide)
    subst hft
    repeat' first
      | refine CO.cons rfl ?_
      | refine CO.nil ?_
      | refine CV.seq ?_
      | refine CV.region callees ?_
      | refine CV.cond ?_
      | refine CV.exit ?_
      | refine CO.consG rfl ?_
      | (refine ⟨_, fS foF0 (by decide), ?_⟩)
      | (refine ⟨_, cell_load ag25 hfx rfl, ?_⟩)
      | (refine ⟨_, cs_len hcx.row, ?_⟩)
      | (refine ⟨_, fun tm ha => shlI rfl rfl (ev_tmp ha rfl) (by omega), ?_⟩)
      | (rw [hPe])
      | (refine ⟨_, fun tm ha => step1_boolEql un4 rfl (ev_tmp ha rfl) (ev_tmp ha rfl), ?_⟩)
      | (refine ⟨fun _ => ?_, fun _ => ?_⟩ <;> first | (exfalso; omega) | skip)
      | fail
    refine (awake_spec (by omega)).mono ?_
    rintro r HG ⟨rfl, kG⟩
    repeat' first
      | refine CO.cons rfl ?_
      | refine CO.nil ?_
      | refine CV.ret ?_
      | fail
    exact ⟨rfl, rfl⟩
end Go.Proofs.Ytglkphjjinmgmaa

