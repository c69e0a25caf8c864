
/- Who is invited: the walk. -/
import Derived.Test.Ytlamceokhbigaaau2g
set_option linter.unusedVariables false
set_option linter.unusedSimpArgs false
namespace Go.Proofs.Ytlamceokhbigaaa
open Go.AI
set_option maxHeartbeats 16000000 in
set_option maxRecDepth 100000 in
theorem invite_spec {B : Nat} {H : Heap} {gv bv : Value} {gs : List Gu} {bs : List Bo} {seats : Int} (hB : B ≤ H.n) (hg : RowS 5 H gv (gs.map Gul)) (hb : RowS 3 H bv (bs.map Bol)) (hl : gs.length ≤ 10) (h : GsOk gs) (hbl : bs.length ≤ 20) (hok : ∀ i, i < bs.length → BoOk gs.length bs[i]!) (hs0 : 0 ≤ seats) (hs7 : seats ≤ 7) :
    CallB Try.prog B 43 [gv, bv, VI seats] H (fun r H' => (∃ q, r = .tuple #[q, VI (invK gs bs seats gs.length (2 ^ gs.length)).2, VI 0] ∧ Own 3 H' q ((invK gs bs seats gs.length (2 ^ gs.length)).1.map VI) H.n) ∧ Keep H H') := by
  have hho : ∀ i, i < gs.length → 0 ≤ gs[i]!.ho ∧ gs[i]!.ho ≤ 1000 := fun i hi => ⟨(h.ok i hi).ho, (h.ok i hi).ho'⟩
  obtain ⟨T, hT⟩ : ∃ T, 2 ^ gs.length = T := ⟨_, rfl⟩
  have hT10 : T ≤ 1024 := by rw [← hT]; exact Nat.pow_le_pow_right (by decide) (by omega : gs.length ≤ 10)
  refine CV.enter callees false rfl Try.func43 rfl (by kernel_rfl) (Nat.le_of_ble_eq_true rfl) hB ?_
  repeat' first
    | refine CO.cons rfl ?_
    | refine CO.nil ?_
    | refine CV.seq ?_
    | refine CV.region callees ?_
    | refine CV.cond ?_
    | refine CV.block ?_
    | refine CV.skip ?_
    | refine CV.exit ?_
    | refine CV.ret ?_
    | refine CV.scope ?_
    | refine CV.draw callees (by decide +kernel) ?_
    | refine CH.cons rfl ?_
    | refine CH.nil ?_
    | refine CO.consG rfl ?_
    | refine CH.consG rfl ?_
    | refine CG.cons rfl ?_
    | refine CR.cons ?_
    | refine CR.nil ?_
    | refine CG.nil ?_
    | refine CG.consG rfl ?_
    | refine ⟨(rfl : plain _ = true), ?_⟩
    | refine ⟨(rfl : nilOk _ = some _), ?_⟩
    | refine ⟨_, ints_len (by assumption), ?_⟩
    | refine ⟨_, ints_addr (by assumption) (by omega) (by omega), ?_⟩
    | refine ⟨_, ints_load (by assumption) (by omega) (by omega), ?_⟩
    | refine ⟨(⟨by omega, by omega⟩ : inI64 _), ?_⟩
    | refine ⟨_, fun tm ha => step1_max rfl (ev_tmp ha rfl) (ev_tmp ha rfl), ?_⟩
    | refine ⟨_, fun tm ha => step1_min rfl (ev_tmp ha rfl) (ev_tmp ha rfl), ?_⟩
    | (refine ⟨fun _ => ?_, fun _ => ?_⟩ <;> first | (exfalso; omega) | skip)
    | fail
  refine (checkBonds_spec (by omega) hg hb hl h hbl hok).mono ?_
  rintro r H1 ⟨rfl, k1⟩
  have l1 := k1.1
  repeat' first
    | refine CO.cons rfl ?_
    | refine CO.nil ?_
    | refine CV.seq ?_
    | refine CV.region callees ?_
    | refine CV.cond ?_
    | refine CV.block ?_
    | refine CV.skip ?_
    | refine CV.exit ?_
    | refine CV.ret ?_
    | refine CV.scope ?_
    | refine CV.draw callees (by decide +kernel) ?_
    | refine CH.cons rfl ?_
    | refine CH.nil ?_
    | refine CO.consG rfl ?_
    | refine CH.consG rfl ?_
    | refine CG.cons rfl ?_
    | refine CR.cons ?_
    | refine CR.nil ?_
    | refine CG.nil ?_
    | refine CG.consG rfl ?_
    | refine ⟨(rfl : plain _ = true), ?_⟩
    | refine ⟨(rfl : nilOk _ = some _), ?_⟩
    | refine ⟨_, ints_len (by assumption), ?_⟩
    | refine ⟨_, ints_addr (by assumption) (by omega) (by omega), ?_⟩
    | refine ⟨_, ints_load (by assumption) (by omega) (by omega), ?_⟩
    | refine ⟨(⟨by omega, by omega⟩ : inI64 _), ?_⟩
    | refine ⟨_, fun tm ha => step1_max rfl (ev_tmp ha rfl) (ev_tmp ha rfl), ?_⟩
    | refine ⟨_, fun tm ha => step1_min rfl (ev_tmp ha rfl) (ev_tmp ha rfl), ?_⟩
    | (refine ⟨fun _ => ?_, fun _ => ?_⟩ <;> first | (exfalso; omega) | skip)
    | fail
  refine (isWithin_yes (by omega) ⟨hs0, hs7⟩).mono ?_
  rintro r H2 ⟨rfl, rfl⟩
  have hg1 := hg.keep k1
  have hb1 := hb.keep k1
  repeat' first
    | refine CO.cons rfl ?_
    | refine CO.nil ?_
    | refine CV.seq ?_
    | refine CV.region callees ?_
    | refine CV.cond ?_
    | refine CV.block ?_
    | refine CV.skip ?_
    | refine CV.exit ?_
    | refine CV.ret ?_
    | refine CV.scope ?_
    | refine CV.draw callees (by decide +kernel) ?_
    | refine CH.cons rfl ?_
    | refine CH.nil ?_
    | refine CO.consG rfl ?_
    | refine CH.consG rfl ?_
    | refine CG.cons rfl ?_
    | refine CR.cons ?_
    | refine CR.nil ?_
    | refine CG.nil ?_
    | refine CG.consG rfl ?_
    | refine ⟨(rfl : plain _ = true), ?_⟩
    | refine ⟨(rfl : nilOk _ = some _), ?_⟩
    | refine ⟨_, ints_len (by assumption), ?_⟩
    | refine ⟨_, ints_addr (by assumption) (by omega) (by omega), ?_⟩
    | refine ⟨_, ints_load (by assumption) (by omega) (by omega), ?_⟩
    | refine ⟨(⟨by omega, by omega⟩ : inI64 _), ?_⟩
    | refine ⟨_, fun tm ha => step1_max rfl (ev_tmp ha rfl) (ev_tmp ha rfl), ?_⟩
    | refine ⟨_, fun tm ha => step1_min rfl (ev_tmp ha rfl) (ev_tmp ha rfl), ?_⟩
    | (refine ⟨_, gs_len hg1, ?_⟩)
    | (refine ⟨_, fun tm ha => shlU rfl rfl (ev_tmp ha rfl) (by omega) (by omega), ?_⟩)
    | (refine ⟨fun _ => ?_, fun _ => ?_⟩ <;> first | (exfalso; omega) | skip)
    | fail
  have hT2 : 2 ^ ((gs.length : Int)).toNat = T := hT
  rw [hT2]
  rw [hT]
  refine CV.loopc ?_
  refine WCv.rounds callees false (α := Nat × Value × Int) (fun (k, q, hon) => [(0, gv), (1, bv), (2, VI seats), (6, q), (7, VI hon), (24, VU (T : Int)), (25, VU (k : Int))]) (fun (k, q, hon) Hz => k ≤ T ∧ Own 3 Hz q ((invK gs bs seats gs.length k).1.map VI) H.n ∧ hon = (invK gs bs seats gs.length k).2 ∧ Keep H Hz) (fun (k, q, hon) => T - k) (0, nilS, 0) (by repeat' first | exact trivial | refine ⟨rfl, ?_⟩ | refine ⟨slot_int (by (try simp only [Int.toNat_natCast]); omega), ?_⟩) ?_ ?_
  · exact ⟨by omega, .inl ⟨rfl, rfl⟩, rfl, k1⟩
  rintro ⟨k, q, hon⟩ Hx ⟨hk, hq, hh, kx⟩ hBx
  have lx := kx.1
  by_cases hk2 : k < T
  · have hkn : k < 2 ^ gs.length := by rw [hT]; exact hk2
    repeat' first
      | refine CO.cons rfl ?_
      | refine CO.nil ?_
      | refine CV.seq ?_
      | refine CV.region callees ?_
      | refine CV.cond ?_
      | refine CV.block ?_
      | refine CV.skip ?_
      | refine CV.exit ?_
      | refine CV.ret ?_
      | refine CV.scope ?_
      | refine CV.draw callees (by decide +kernel) ?_
      | refine CH.cons rfl ?_
      | refine CH.nil ?_
      | refine CO.consG rfl ?_
      | refine CH.consG rfl ?_
      | refine CG.cons rfl ?_
      | refine CR.cons ?_
      | refine CR.nil ?_
      | refine CG.nil ?_
      | refine CG.consG rfl ?_
      | refine ⟨(rfl : plain _ = true), ?_⟩
      | refine ⟨(rfl : nilOk _ = some _), ?_⟩
      | refine ⟨_, ints_len (by assumption), ?_⟩
      | refine ⟨_, ints_addr (by assumption) (by omega) (by omega), ?_⟩
      | refine ⟨_, ints_load (by assumption) (by omega) (by omega), ?_⟩
      | refine ⟨(⟨by omega, by omega⟩ : inI64 _), ?_⟩
      | refine ⟨_, fun tm ha => step1_max rfl (ev_tmp ha rfl) (ev_tmp ha rfl), ?_⟩
      | refine ⟨_, fun tm ha => step1_min rfl (ev_tmp ha rfl) (ev_tmp ha rfl), ?_⟩
      | (refine ⟨fun _ => ?_, fun _ => ?_⟩ <;> first | (exfalso; omega) | skip)
      | fail
    refine (list2_spec (by omega) (show k < 2 ^ 32 by omega)).mono ?_
    rintro v H2 ⟨⟨i, hi, hz, hq2⟩, k2⟩
    rw [bits_stop hz (shr_zero hkn)] at hq2
    have l2 := k2.1
    have hst : invK gs bs seats gs.length (k + 1) = if okI bs seats gs.length k = true ∧ betI gs gs.length k (invK gs bs seats gs.length k) then (bitsL k gs.length, honL gs (bitsL k gs.length)) else invK gs bs seats gs.length k := rfl
    have hll : (bitsL k gs.length).length ≤ gs.length := bitsL_len
    have hlr : ∀ x ∈ bitsL k gs.length, 0 ≤ x ∧ x < gs.length := fun x hx => bits_lt hx
    have hok2 : okI bs seats gs.length k = (decide (((bitsL k gs.length).length : Int) ≤ seats) && keepsI k bs) := rfl
    have hbet : betI gs gs.length k (invK gs bs seats gs.length k) ↔ hon < honL gs (bitsL k gs.length) ∨ honL gs (bitsL k gs.length) = hon ∧ cfL (bitsL k gs.length) (invK gs bs seats gs.length k).1 = true := by rw [hh]
    have hcl : (invK gs bs seats gs.length k).1.length < 1000000 := by
      by_cases c0 : k = 0
      · rw [c0]; simp [invK]
      · obtain ⟨⟨k0, _, _, e⟩, _⟩ := inv_best (gs := gs) (bs := bs) (n := gs.length) hs0 k (by omega)
        have := bitsL_len (N := k0) (i := gs.length)
        rw [e]
        dsimp only
        omega
    have hqx := Own.keep hq k2
    have same : ¬ (okI bs seats gs.length k = true ∧ betI gs gs.length k (invK gs bs seats gs.length k)) → invK gs bs seats gs.length (k + 1) = invK gs bs seats gs.length k := fun hc => by rw [hst, if_neg hc]
    have new : okI bs seats gs.length k = true ∧ betI gs gs.length k (invK gs bs seats gs.length k) → invK gs bs seats gs.length (k + 1) = (bitsL k gs.length, honL gs (bitsL k gs.length)) := fun hc => by rw [hst, if_pos hc]
    obtain ⟨l, hlE⟩ : ∃ l, bitsL k gs.length = l := ⟨_, rfl⟩
    rw [hlE] at hq2 hll hlr hok2 hbet new
    have hi2 : Ints H2 v l := hq2.row
    have fin : ∀ {H' : Heap}, Keep H2 H' → invK gs bs seats gs.length (k + 1) = invK gs bs seats gs.length k → k + 1 ≤ T ∧ Own 3 H' q ((invK gs bs seats gs.length (k + 1)).1.map VI) H.n ∧ hon = (invK gs bs seats gs.length (k + 1)).2 ∧ Keep H H' := fun {H'} k3 e => ⟨by omega, by rw [e]; exact Own.keep hqx k3, by rw [e]; exact hh, (kx.trans k2).trans k3⟩
    have fin2 : ∀ {H' : Heap}, Keep H2 H' → invK gs bs seats gs.length (k + 1) = (l, honL gs l) → k + 1 ≤ T ∧ Own 3 H' v ((invK gs bs seats gs.length (k + 1)).1.map VI) H.n ∧ honL gs l = (invK gs bs seats gs.length (k + 1)).2 ∧ Keep H H' := fun {H'} k3 e => ⟨by omega, by rw [e]; exact Own.lower (Own.keep hq2 k3) (by omega), by rw [e], (kx.trans k2).trans k3⟩
    by_cases hle : (l.length : Int) ≤ seats
    rotate_left
    · repeat' first
        | refine CO.cons rfl ?_
        | refine CO.nil ?_
        | refine CV.seq ?_
        | refine CV.region callees ?_
        | refine CV.cond ?_
        | refine CV.block ?_
        | refine CV.skip ?_
        | refine CV.exit ?_
        | refine CV.ret ?_
        | refine CV.scope ?_
        | refine CV.draw callees (by decide +kernel) ?_
        | refine CH.cons rfl ?_
        | refine CH.nil ?_
        | refine CO.consG rfl ?_
        | refine CH.consG rfl ?_
        | refine CG.cons rfl ?_
        | refine CR.cons ?_
        | refine CR.nil ?_
        | refine CG.nil ?_
        | refine CG.consG rfl ?_
        | refine ⟨(rfl : plain _ = true), ?_⟩
        | refine ⟨(rfl : nilOk _ = some _), ?_⟩
        | refine ⟨_, ints_len (by assumption), ?_⟩
        | refine ⟨_, ints_addr (by assumption) (by omega) (by omega), ?_⟩
        | refine ⟨_, ints_load (by assumption) (by omega) (by omega), ?_⟩
        | refine ⟨(⟨by omega, by omega⟩ : inI64 _), ?_⟩
        | refine ⟨_, fun tm ha => step1_max rfl (ev_tmp ha rfl) (ev_tmp ha rfl), ?_⟩
        | refine ⟨_, fun tm ha => step1_min rfl (ev_tmp ha rfl) (ev_tmp ha rfl), ?_⟩
        | (refine ⟨fun _ => ?_, fun _ => ?_⟩ <;> first | (exfalso; omega) | skip)
        | fail
      intro rr hrr
      obtain rfl : rr = ((k + 1 : Nat) : Int) := by rw [hrr]; exact wrapU (by omega) (by omega)
      repeat' first
        | refine CO.cons rfl ?_
        | refine CO.nil ?_
        | refine CV.seq ?_
        | refine CV.region callees ?_
        | refine CV.cond ?_
        | refine CV.block ?_
        | refine CV.skip ?_
        | refine CV.exit ?_
        | refine CV.ret ?_
        | refine CV.scope ?_
        | refine CV.draw callees (by decide +kernel) ?_
        | refine CH.cons rfl ?_
        | refine CH.nil ?_
        | refine CO.consG rfl ?_
        | refine CH.consG rfl ?_
        | refine CG.cons rfl ?_
        | refine CR.cons ?_
        | refine CR.nil ?_
        | refine CG.nil ?_
        | refine CG.consG rfl ?_
        | refine ⟨(rfl : plain _ = true), ?_⟩
        | refine ⟨(rfl : nilOk _ = some _), ?_⟩
        | refine ⟨_, ints_len (by assumption), ?_⟩
        | refine ⟨_, ints_addr (by assumption) (by omega) (by omega), ?_⟩
        | refine ⟨_, ints_load (by assumption) (by omega) (by omega), ?_⟩
        | refine ⟨(⟨by omega, by omega⟩ : inI64 _), ?_⟩
        | refine ⟨_, fun tm ha => step1_max rfl (ev_tmp ha rfl) (ev_tmp ha rfl), ?_⟩
        | refine ⟨_, fun tm ha => step1_min rfl (ev_tmp ha rfl) (ev_tmp ha rfl), ?_⟩
        | (refine ⟨fun _ => ?_, fun _ => ?_⟩ <;> first | (exfalso; omega) | skip)
        | fail
      refine ⟨(k + 1, q, hon), (by repeat' first | exact trivial | refine ⟨rfl, ?_⟩ | refine ⟨slot_int (by (try simp only [Int.toNat_natCast]); omega), ?_⟩), (by (try dsimp only); omega), ?_⟩
      exact fin (Keep.refl _) (same fun hc => by rw [hok2, decide_eq_false hle] at hc; exact absurd hc.1 Bool.false_ne_true)
    · repeat' first
        | refine CO.cons rfl ?_
        | refine CO.nil ?_
        | refine CV.seq ?_
        | refine CV.region callees ?_
        | refine CV.cond ?_
        | refine CV.block ?_
        | refine CV.skip ?_
        | refine CV.exit ?_
        | refine CV.ret ?_
        | refine CV.scope ?_
        | refine CV.draw callees (by decide +kernel) ?_
        | refine CH.cons rfl ?_
        | refine CH.nil ?_
        | refine CO.consG rfl ?_
        | refine CH.consG rfl ?_
        | refine CG.cons rfl ?_
        | refine CR.cons ?_
        | refine CR.nil ?_
        | refine CG.nil ?_
        | refine CG.consG rfl ?_
        | refine ⟨(rfl : plain _ = true), ?_⟩
        | refine ⟨(rfl : nilOk _ = some _), ?_⟩
        | refine ⟨_, ints_len (by assumption), ?_⟩
        | refine ⟨_, ints_addr (by assumption) (by omega) (by omega), ?_⟩
        | refine ⟨_, ints_load (by assumption) (by omega) (by omega), ?_⟩
        | refine ⟨(⟨by omega, by omega⟩ : inI64 _), ?_⟩
        | refine ⟨_, fun tm ha => step1_max rfl (ev_tmp ha rfl) (ev_tmp ha rfl), ?_⟩
        | refine ⟨_, fun tm ha => step1_min rfl (ev_tmp ha rfl) (ev_tmp ha rfl), ?_⟩
        | (refine ⟨fun _ => ?_, fun _ => ?_⟩ <;> first | (exfalso; omega) | skip)
        | fail
      refine (keepsAll_spec (by omega) (show k < 2 ^ 64 by omega) (hb.keep (kx.trans k2)) hbl (n := gs.length) (by omega) hok).mono ?_
      generalize keepsI k bs = c at hok2 ⊢
      rintro r H3 ⟨rfl, k3⟩
      have l3 := k3.1
      cases c
      · repeat' first
          | refine CO.cons rfl ?_
          | refine CO.nil ?_
          | refine CV.seq ?_
          | refine CV.region callees ?_
          | refine CV.cond ?_
          | refine CV.block ?_
          | refine CV.skip ?_
          | refine CV.exit ?_
          | refine CV.ret ?_
          | refine CV.scope ?_
          | refine CV.draw callees (by decide +kernel) ?_
          | refine CH.cons rfl ?_
          | refine CH.nil ?_
          | refine CO.consG rfl ?_
          | refine CH.consG rfl ?_
          | refine CG.cons rfl ?_
          | refine CR.cons ?_
          | refine CR.nil ?_
          | refine CG.nil ?_
          | refine CG.consG rfl ?_
          | refine ⟨(rfl : plain _ = true), ?_⟩
          | refine ⟨(rfl : nilOk _ = some _), ?_⟩
          | refine ⟨_, ints_len (by assumption), ?_⟩
          | refine ⟨_, ints_addr (by assumption) (by omega) (by omega), ?_⟩
          | refine ⟨_, ints_load (by assumption) (by omega) (by omega), ?_⟩
          | refine ⟨(⟨by omega, by omega⟩ : inI64 _), ?_⟩
          | refine ⟨_, fun tm ha => step1_max rfl (ev_tmp ha rfl) (ev_tmp ha rfl), ?_⟩
          | refine ⟨_, fun tm ha => step1_min rfl (ev_tmp ha rfl) (ev_tmp ha rfl), ?_⟩
          | (refine ⟨fun _ => ?_, fun _ => ?_⟩ <;> first | (exfalso; omega) | skip)
          | fail
        intro rr hrr
        obtain rfl : rr = ((k + 1 : Nat) : Int) := by rw [hrr]; exact wrapU (by omega) (by omega)
        repeat' first
          | refine CO.cons rfl ?_
          | refine CO.nil ?_
          | refine CV.seq ?_
          | refine CV.region callees ?_
          | refine CV.cond ?_
          | refine CV.block ?_
          | refine CV.skip ?_
          | refine CV.exit ?_
          | refine CV.ret ?_
          | refine CV.scope ?_
          | refine CV.draw callees (by decide +kernel) ?_
          | refine CH.cons rfl ?_
          | refine CH.nil ?_
          | refine CO.consG rfl ?_
          | refine CH.consG rfl ?_
          | refine CG.cons rfl ?_
          | refine CR.cons ?_
          | refine CR.nil ?_
          | refine CG.nil ?_
          | refine CG.consG rfl ?_
          | refine ⟨(rfl : plain _ = true), ?_⟩
          | refine ⟨(rfl : nilOk _ = some _), ?_⟩
          | refine ⟨_, ints_len (by assumption), ?_⟩
          | refine ⟨_, ints_addr (by assumption) (by omega) (by omega), ?_⟩
          | refine ⟨_, ints_load (by assumption) (by omega) (by omega), ?_⟩
          | refine ⟨(⟨by omega, by omega⟩ : inI64 _), ?_⟩
          | refine ⟨_, fun tm ha => step1_max rfl (ev_tmp ha rfl) (ev_tmp ha rfl), ?_⟩
          | refine ⟨_, fun tm ha => step1_min rfl (ev_tmp ha rfl) (ev_tmp ha rfl), ?_⟩
          | (refine ⟨fun _ => ?_, fun _ => ?_⟩ <;> first | (exfalso; omega) | skip)
          | fail
        refine ⟨(k + 1, q, hon), (by repeat' first | exact trivial | refine ⟨rfl, ?_⟩ | refine ⟨slot_int (by (try simp only [Int.toNat_natCast]); omega), ?_⟩), (by (try dsimp only); omega), ?_⟩
        exact fin k3 (same fun hc => by rw [hok2, Bool.and_false] at hc; exact absurd hc.1 Bool.false_ne_true)
      · have hok3 : okI bs seats gs.length k = true := by rw [hok2, decide_eq_true hle]; rfl
        repeat' first
          | refine CO.cons rfl ?_
          | refine CO.nil ?_
          | refine CV.seq ?_
          | refine CV.region callees ?_
          | refine CV.cond ?_
          | refine CV.block ?_
          | refine CV.skip ?_
          | refine CV.exit ?_
          | refine CV.ret ?_
          | refine CV.scope ?_
          | refine CV.draw callees (by decide +kernel) ?_
          | refine CH.cons rfl ?_
          | refine CH.nil ?_
          | refine CO.consG rfl ?_
          | refine CH.consG rfl ?_
          | refine CG.cons rfl ?_
          | refine CR.cons ?_
          | refine CR.nil ?_
          | refine CG.nil ?_
          | refine CG.consG rfl ?_
          | refine ⟨(rfl : plain _ = true), ?_⟩
          | refine ⟨(rfl : nilOk _ = some _), ?_⟩
          | refine ⟨_, ints_len (by assumption), ?_⟩
          | refine ⟨_, ints_addr (by assumption) (by omega) (by omega), ?_⟩
          | refine ⟨_, ints_load (by assumption) (by omega) (by omega), ?_⟩
          | refine ⟨(⟨by omega, by omega⟩ : inI64 _), ?_⟩
          | refine ⟨_, fun tm ha => step1_max rfl (ev_tmp ha rfl) (ev_tmp ha rfl), ?_⟩
          | refine ⟨_, fun tm ha => step1_min rfl (ev_tmp ha rfl) (ev_tmp ha rfl), ?_⟩
          | (refine ⟨fun _ => ?_, fun _ => ?_⟩ <;> first | (exfalso; omega) | skip)
          | fail
        refine (honourOf_spec (by omega) (hg.keep ((kx.trans k2).trans k3)) (Row.keep hi2 k3) (by omega) hho hlr).mono ?_
        rintro r H4 ⟨rfl, k4⟩
        have l4 := k4.1
        have k24 := k3.trans k4
        by_cases c1 : hon < honL gs l
        · repeat' first
            | refine CO.cons rfl ?_
            | refine CO.nil ?_
            | refine CV.seq ?_
            | refine CV.region callees ?_
            | refine CV.cond ?_
            | refine CV.block ?_
            | refine CV.skip ?_
            | refine CV.exit ?_
            | refine CV.ret ?_
            | refine CV.scope ?_
            | refine CV.draw callees (by decide +kernel) ?_
            | refine CH.cons rfl ?_
            | refine CH.nil ?_
            | refine CO.consG rfl ?_
            | refine CH.consG rfl ?_
            | refine CG.cons rfl ?_
            | refine CR.cons ?_
            | refine CR.nil ?_
            | refine CG.nil ?_
            | refine CG.consG rfl ?_
            | refine ⟨(rfl : plain _ = true), ?_⟩
            | refine ⟨(rfl : nilOk _ = some _), ?_⟩
            | refine ⟨_, ints_len (by assumption), ?_⟩
            | refine ⟨_, ints_addr (by assumption) (by omega) (by omega), ?_⟩
            | refine ⟨_, ints_load (by assumption) (by omega) (by omega), ?_⟩
            | refine ⟨(⟨by omega, by omega⟩ : inI64 _), ?_⟩
            | refine ⟨_, fun tm ha => step1_max rfl (ev_tmp ha rfl) (ev_tmp ha rfl), ?_⟩
            | refine ⟨_, fun tm ha => step1_min rfl (ev_tmp ha rfl) (ev_tmp ha rfl), ?_⟩
            | (refine ⟨fun _ => ?_, fun _ => ?_⟩ <;> first | (exfalso; omega) | skip)
            | fail
          intro rr hrr
          obtain rfl : rr = ((k + 1 : Nat) : Int) := by rw [hrr]; exact wrapU (by omega) (by omega)
          repeat' first
            | refine CO.cons rfl ?_
            | refine CO.nil ?_
            | refine CV.seq ?_
            | refine CV.region callees ?_
            | refine CV.cond ?_
            | refine CV.block ?_
            | refine CV.skip ?_
            | refine CV.exit ?_
            | refine CV.ret ?_
            | refine CV.scope ?_
            | refine CV.draw callees (by decide +kernel) ?_
            | refine CH.cons rfl ?_
            | refine CH.nil ?_
            | refine CO.consG rfl ?_
            | refine CH.consG rfl ?_
            | refine CG.cons rfl ?_
            | refine CR.cons ?_
            | refine CR.nil ?_
            | refine CG.nil ?_
            | refine CG.consG rfl ?_
            | refine ⟨(rfl : plain _ = true), ?_⟩
            | refine ⟨(rfl : nilOk _ = some _), ?_⟩
            | refine ⟨_, ints_len (by assumption), ?_⟩
            | refine ⟨_, ints_addr (by assumption) (by omega) (by omega), ?_⟩
            | refine ⟨_, ints_load (by assumption) (by omega) (by omega), ?_⟩
            | refine ⟨(⟨by omega, by omega⟩ : inI64 _), ?_⟩
            | refine ⟨_, fun tm ha => step1_max rfl (ev_tmp ha rfl) (ev_tmp ha rfl), ?_⟩
            | refine ⟨_, fun tm ha => step1_min rfl (ev_tmp ha rfl) (ev_tmp ha rfl), ?_⟩
            | (refine ⟨fun _ => ?_, fun _ => ?_⟩ <;> first | (exfalso; omega) | skip)
            | fail
          refine ⟨(k + 1, v, honL gs l), (by repeat' first | exact trivial | refine ⟨rfl, ?_⟩ | refine ⟨slot_int (by (try simp only [Int.toNat_natCast]); omega), ?_⟩), (by (try dsimp only); omega), ?_⟩
          exact fin2 k24 (new ⟨hok3, hbet.2 (.inl c1)⟩)
        · by_cases c2 : honL gs l = hon
          · repeat' first
              | refine CO.cons rfl ?_
              | refine CO.nil ?_
              | refine CV.seq ?_
              | refine CV.region callees ?_
              | refine CV.cond ?_
              | refine CV.block ?_
              | refine CV.skip ?_
              | refine CV.exit ?_
              | refine CV.ret ?_
              | refine CV.scope ?_
              | refine CV.draw callees (by decide +kernel) ?_
              | refine CH.cons rfl ?_
              | refine CH.nil ?_
              | refine CO.consG rfl ?_
              | refine CH.consG rfl ?_
              | refine CG.cons rfl ?_
              | refine CR.cons ?_
              | refine CR.nil ?_
              | refine CG.nil ?_
              | refine CG.consG rfl ?_
              | refine ⟨(rfl : plain _ = true), ?_⟩
              | refine ⟨(rfl : nilOk _ = some _), ?_⟩
              | refine ⟨_, ints_len (by assumption), ?_⟩
              | refine ⟨_, ints_addr (by assumption) (by omega) (by omega), ?_⟩
              | refine ⟨_, ints_load (by assumption) (by omega) (by omega), ?_⟩
              | refine ⟨(⟨by omega, by omega⟩ : inI64 _), ?_⟩
              | refine ⟨_, fun tm ha => step1_max rfl (ev_tmp ha rfl) (ev_tmp ha rfl), ?_⟩
              | refine ⟨_, fun tm ha => step1_min rfl (ev_tmp ha rfl) (ev_tmp ha rfl), ?_⟩
              | (refine ⟨fun _ => ?_, fun _ => ?_⟩ <;> first | (exfalso; omega) | skip)
              | fail
            refine (comesFirst_spec (by omega) (Row.keep hi2 k24) (Own.keep hqx k24).row (by omega) hcl).mono ?_
            generalize hcf : cfL l (invK gs bs seats gs.length k).1 = cf
            rintro r H5 ⟨rfl, k5⟩
            have l5 := k5.1
            cases cf
            · repeat' first
                | refine CO.cons rfl ?_
                | refine CO.nil ?_
                | refine CV.seq ?_
                | refine CV.region callees ?_
                | refine CV.cond ?_
                | refine CV.block ?_
                | refine CV.skip ?_
                | refine CV.exit ?_
                | refine CV.ret ?_
                | refine CV.scope ?_
                | refine CV.draw callees (by decide +kernel) ?_
                | refine CH.cons rfl ?_
                | refine CH.nil ?_
                | refine CO.consG rfl ?_
                | refine CH.consG rfl ?_
                | refine CG.cons rfl ?_
                | refine CR.cons ?_
                | refine CR.nil ?_
                | refine CG.nil ?_
                | refine CG.consG rfl ?_
                | refine ⟨(rfl : plain _ = true), ?_⟩
                | refine ⟨(rfl : nilOk _ = some _), ?_⟩
                | refine ⟨_, ints_len (by assumption), ?_⟩
                | refine ⟨_, ints_addr (by assumption) (by omega) (by omega), ?_⟩
                | refine ⟨_, ints_load (by assumption) (by omega) (by omega), ?_⟩
                | refine ⟨(⟨by omega, by omega⟩ : inI64 _), ?_⟩
                | refine ⟨_, fun tm ha => step1_max rfl (ev_tmp ha rfl) (ev_tmp ha rfl), ?_⟩
                | refine ⟨_, fun tm ha => step1_min rfl (ev_tmp ha rfl) (ev_tmp ha rfl), ?_⟩
                | (refine ⟨fun _ => ?_, fun _ => ?_⟩ <;> first | (exfalso; omega) | skip)
                | fail
              intro rr hrr
              obtain rfl : rr = ((k + 1 : Nat) : Int) := by rw [hrr]; exact wrapU (by omega) (by omega)
              repeat' first
                | refine CO.cons rfl ?_
                | refine CO.nil ?_
                | refine CV.seq ?_
                | refine CV.region callees ?_
                | refine CV.cond ?_
                | refine CV.block ?_
                | refine CV.skip ?_
                | refine CV.exit ?_
                | refine CV.ret ?_
                | refine CV.scope ?_
                | refine CV.draw callees (by decide +kernel) ?_
                | refine CH.cons rfl ?_
                | refine CH.nil ?_
                | refine CO.consG rfl ?_
                | refine CH.consG rfl ?_
                | refine CG.cons rfl ?_
                | refine CR.cons ?_
                | refine CR.nil ?_
                | refine CG.nil ?_
                | refine CG.consG rfl ?_
                | refine ⟨(rfl : plain _ = true), ?_⟩
                | refine ⟨(rfl : nilOk _ = some _), ?_⟩
                | refine ⟨_, ints_len (by assumption), ?_⟩
                | refine ⟨_, ints_addr (by assumption) (by omega) (by omega), ?_⟩
                | refine ⟨_, ints_load (by assumption) (by omega) (by omega), ?_⟩
                | refine ⟨(⟨by omega, by omega⟩ : inI64 _), ?_⟩
                | refine ⟨_, fun tm ha => step1_max rfl (ev_tmp ha rfl) (ev_tmp ha rfl), ?_⟩
                | refine ⟨_, fun tm ha => step1_min rfl (ev_tmp ha rfl) (ev_tmp ha rfl), ?_⟩
                | (refine ⟨fun _ => ?_, fun _ => ?_⟩ <;> first | (exfalso; omega) | skip)
                | fail
              refine ⟨(k + 1, q, hon), (by repeat' first | exact trivial | refine ⟨rfl, ?_⟩ | refine ⟨slot_int (by (try simp only [Int.toNat_natCast]); omega), ?_⟩), (by (try dsimp only); omega), ?_⟩
              exact fin (k24.trans k5) (same fun hc => by rcases hbet.1 hc.2 with h1 | ⟨_, h1⟩; exact c1 h1; rw [hcf] at h1; cases h1)
            · repeat' first
                | refine CO.cons rfl ?_
                | refine CO.nil ?_
                | refine CV.seq ?_
                | refine CV.region callees ?_
                | refine CV.cond ?_
                | refine CV.block ?_
                | refine CV.skip ?_
                | refine CV.exit ?_
                | refine CV.ret ?_
                | refine CV.scope ?_
                | refine CV.draw callees (by decide +kernel) ?_
                | refine CH.cons rfl ?_
                | refine CH.nil ?_
                | refine CO.consG rfl ?_
                | refine CH.consG rfl ?_
                | refine CG.cons rfl ?_
                | refine CR.cons ?_
                | refine CR.nil ?_
                | refine CG.nil ?_
                | refine CG.consG rfl ?_
                | refine ⟨(rfl : plain _ = true), ?_⟩
                | refine ⟨(rfl : nilOk _ = some _), ?_⟩
                | refine ⟨_, ints_len (by assumption), ?_⟩
                | refine ⟨_, ints_addr (by assumption) (by omega) (by omega), ?_⟩
                | refine ⟨_, ints_load (by assumption) (by omega) (by omega), ?_⟩
                | refine ⟨(⟨by omega, by omega⟩ : inI64 _), ?_⟩
                | refine ⟨_, fun tm ha => step1_max rfl (ev_tmp ha rfl) (ev_tmp ha rfl), ?_⟩
                | refine ⟨_, fun tm ha => step1_min rfl (ev_tmp ha rfl) (ev_tmp ha rfl), ?_⟩
                | (refine ⟨fun _ => ?_, fun _ => ?_⟩ <;> first | (exfalso; omega) | skip)
                | fail
              intro rr hrr
              obtain rfl : rr = ((k + 1 : Nat) : Int) := by rw [hrr]; exact wrapU (by omega) (by omega)
              repeat' first
                | refine CO.cons rfl ?_
                | refine CO.nil ?_
                | refine CV.seq ?_
                | refine CV.region callees ?_
                | refine CV.cond ?_
                | refine CV.block ?_
                | refine CV.skip ?_
                | refine CV.exit ?_
                | refine CV.ret ?_
                | refine CV.scope ?_
                | refine CV.draw callees (by decide +kernel) ?_
                | refine CH.cons rfl ?_
                | refine CH.nil ?_
                | refine CO.consG rfl ?_
                | refine CH.consG rfl ?_
                | refine CG.cons rfl ?_
                | refine CR.cons ?_
                | refine CR.nil ?_
                | refine CG.nil ?_
                | refine CG.consG rfl ?_
                | refine ⟨(rfl : plain _ = true), ?_⟩
                | refine ⟨(rfl : nilOk _ = some _), ?_⟩
                | refine ⟨_, ints_len (by assumption), ?_⟩
                | refine ⟨_, ints_addr (by assumption) (by omega) (by omega), ?_⟩
                | refine ⟨_, ints_load (by assumption) (by omega) (by omega), ?_⟩
                | refine ⟨(⟨by omega, by omega⟩ : inI64 _), ?_⟩
                | refine ⟨_, fun tm ha => step1_max rfl (ev_tmp ha rfl) (ev_tmp ha rfl), ?_⟩
                | refine ⟨_, fun tm ha => step1_min rfl (ev_tmp ha rfl) (ev_tmp ha rfl), ?_⟩
                | (refine ⟨fun _ => ?_, fun _ => ?_⟩ <;> first | (exfalso; omega) | skip)
                | fail
              refine ⟨(k + 1, v, honL gs l), (by repeat' first | exact trivial | refine ⟨rfl, ?_⟩ | refine ⟨slot_int (by (try simp only [Int.toNat_natCast]); omega), ?_⟩), (by (try dsimp only); omega), ?_⟩
              exact fin2 (k24.trans k5) (new ⟨hok3, hbet.2 (.inr ⟨c2, hcf⟩)⟩)
          · repeat' first
              | refine CO.cons rfl ?_
              | refine CO.nil ?_
              | refine CV.seq ?_
              | refine CV.region callees ?_
              | refine CV.cond ?_
              | refine CV.block ?_
              | refine CV.skip ?_
              | refine CV.exit ?_
              | refine CV.ret ?_
              | refine CV.scope ?_
              | refine CV.draw callees (by decide +kernel) ?_
              | refine CH.cons rfl ?_
              | refine CH.nil ?_
              | refine CO.consG rfl ?_
              | refine CH.consG rfl ?_
              | refine CG.cons rfl ?_
              | refine CR.cons ?_
              | refine CR.nil ?_
              | refine CG.nil ?_
              | refine CG.consG rfl ?_
              | refine ⟨(rfl : plain _ = true), ?_⟩
              | refine ⟨(rfl : nilOk _ = some _), ?_⟩
              | refine ⟨_, ints_len (by assumption), ?_⟩
              | refine ⟨_, ints_addr (by assumption) (by omega) (by omega), ?_⟩
              | refine ⟨_, ints_load (by assumption) (by omega) (by omega), ?_⟩
              | refine ⟨(⟨by omega, by omega⟩ : inI64 _), ?_⟩
              | refine ⟨_, fun tm ha => step1_max rfl (ev_tmp ha rfl) (ev_tmp ha rfl), ?_⟩
              | refine ⟨_, fun tm ha => step1_min rfl (ev_tmp ha rfl) (ev_tmp ha rfl), ?_⟩
              | (refine ⟨fun _ => ?_, fun _ => ?_⟩ <;> first | (exfalso; omega) | skip)
              | fail
            intro rr hrr
            obtain rfl : rr = ((k + 1 : Nat) : Int) := by rw [hrr]; exact wrapU (by omega) (by omega)
            repeat' first
              | refine CO.cons rfl ?_
              | refine CO.nil ?_
              | refine CV.seq ?_
              | refine CV.region callees ?_
              | refine CV.cond ?_
              | refine CV.block ?_
              | refine CV.skip ?_
              | refine CV.exit ?_
              | refine CV.ret ?_
              | refine CV.scope ?_
              | refine CV.draw callees (by decide +kernel) ?_
              | refine CH.cons rfl ?_
              | refine CH.nil ?_
              | refine CO.consG rfl ?_
              | refine CH.consG rfl ?_
              | refine CG.cons rfl ?_
              | refine CR.cons ?_
              | refine CR.nil ?_
              | refine CG.nil ?_
              | refine CG.consG rfl ?_
              | refine ⟨(rfl : plain _ = true), ?_⟩
              | refine ⟨(rfl : nilOk _ = some _), ?_⟩
              | refine ⟨_, ints_len (by assumption), ?_⟩
              | refine ⟨_, ints_addr (by assumption) (by omega) (by omega), ?_⟩
              | refine ⟨_, ints_load (by assumption) (by omega) (by omega), ?_⟩
              | refine ⟨(⟨by omega, by omega⟩ : inI64 _), ?_⟩
              | refine ⟨_, fun tm ha => step1_max rfl (ev_tmp ha rfl) (ev_tmp ha rfl), ?_⟩
              | refine ⟨_, fun tm ha => step1_min rfl (ev_tmp ha rfl) (ev_tmp ha rfl), ?_⟩
              | (refine ⟨fun _ => ?_, fun _ => ?_⟩ <;> first | (exfalso; omega) | skip)
              | fail
            refine ⟨(k + 1, q, hon), (by repeat' first | exact trivial | refine ⟨rfl, ?_⟩ | refine ⟨slot_int (by (try simp only [Int.toNat_natCast]); omega), ?_⟩), (by (try dsimp only); omega), ?_⟩
            exact fin k24 (same fun hc => by rcases hbet.1 hc.2 with h1 | ⟨h1, _⟩; exact c1 h1; exact c2 h1)
  obtain rfl : k = T := by omega
  repeat' first
    | refine CO.cons rfl ?_
    | refine CO.nil ?_
    | refine CV.seq ?_
    | refine CV.region callees ?_
    | refine CV.cond ?_
    | refine CV.block ?_
    | refine CV.skip ?_
    | refine CV.exit ?_
    | refine CV.ret ?_
    | refine CV.scope ?_
    | refine CV.draw callees (by decide +kernel) ?_
    | refine CH.cons rfl ?_
    | refine CH.nil ?_
    | refine CO.consG rfl ?_
    | refine CH.consG rfl ?_
    | refine CG.cons rfl ?_
    | refine CR.cons ?_
    | refine CR.nil ?_
    | refine CG.nil ?_
    | refine CG.consG rfl ?_
    | refine ⟨(rfl : plain _ = true), ?_⟩
    | refine ⟨(rfl : nilOk _ = some _), ?_⟩
    | refine ⟨_, ints_len (by assumption), ?_⟩
    | refine ⟨_, ints_addr (by assumption) (by omega) (by omega), ?_⟩
    | refine ⟨_, ints_load (by assumption) (by omega) (by omega), ?_⟩
    | refine ⟨(⟨by omega, by omega⟩ : inI64 _), ?_⟩
    | refine ⟨_, fun tm ha => step1_max rfl (ev_tmp ha rfl) (ev_tmp ha rfl), ?_⟩
    | refine ⟨_, fun tm ha => step1_min rfl (ev_tmp ha rfl) (ev_tmp ha rfl), ?_⟩
    | (refine ⟨fun _ => ?_, fun _ => ?_⟩ <;> first | (exfalso; omega) | skip)
    | fail
  exact ⟨by simp only [List.all_cons, List.all_nil, hq.notTuple]; rfl, ⟨q, by rw [hh], hq⟩, kx⟩
end Go.Proofs.Ytlamceokhbigaaa

