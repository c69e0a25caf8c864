
/- Picked out of A1.tpl A2.tpl A3.tpl A4.tpl A7.tpl Ma.tpl B0s.tpl B1.tpl B2.tpl B3.tpl B4.tpl B5.tpl B6.tpl B8.tpl D1.tpl F1.tpl F2.tpl F3.tpl F4.tpl K0s.tpl Sa.tpl Sb.tpl S1.tpl S2.tpl S3.tpl S4.tpl S5.tpl S6.tpl. -/
import Derived.Test.YtlpkbcgdcimglaaGnd
set_option linter.unusedVariables false
set_option linter.unusedSimpArgs false
namespace Go.Proofs.Ytlpkbcgdcimglaa.Sc
open Go.AI
theorem callees : calleesOk Try.prog 165 = true := by kernel_rfl

end Go.Proofs.Ytlpkbcgdcimglaa.Sc

namespace Go.Proofs.Ytlpkbcgdcimglaa.Sc
open Go.AI

end Go.Proofs.Ytlpkbcgdcimglaa.Sc

namespace Go.Proofs.Ytlpkbcgdcimglaa.Sc
open Go.AI

theorem check_of {xs : List Int} (h0 : ¬ xs.length = 0) (h1 : ¬ 9 < xs.length) : check (num xs []) = 0 := by
  rw [check, num_length, if_neg h0, if_neg h1]
  exact check_num xs [] (by simp; omega)

end Go.Proofs.Ytlpkbcgdcimglaa.Sc

namespace Go.Proofs.Ytlpkbcgdcimglaa.Sc
open Go.AI

end Go.Proofs.Ytlpkbcgdcimglaa.Sc

namespace Go.Proofs.Ytlpkbcgdcimglaa.Sc
open Go.AI

def chk2 (xs ys : List Int) : Int := if check xs = 0 then (if check ys = 0 then (if xs.length = ys.length then 0 else 12) else check ys) else check xs

set_option maxRecDepth 100000 in
theorem checkBoth_spec {B : Nat} {v u : Value} {H : Heap} {xs ys : List Int} (hB : B ≤ H.n) (hv : Ints H v xs) (hu : Ints H u ys) :
    CallB Try.prog B 137 [v, u] H (fun r H' => r = .int .i64 (chk2 xs ys) ∧ H' = H) := by
  refine vcF_spec callees (wr := false) rfl Try.func137 rfl ok137 (by simp [Try.ntmps137]) hB ?_
  refine (chartCheck_spec hB hv).mono ?_
  rintro r H' ⟨rfl, rfl⟩
  refine ⟨fun h1 => ?_, fun h1 => ?_⟩
  · exact ⟨rfl, by rw [chk2, if_neg h1], rfl⟩
  refine (chartCheck_spec hB hu).mono ?_
  rintro r H' ⟨rfl, rfl⟩
  refine ⟨fun h2 => ?_, fun h2 => ?_⟩
  · exact ⟨rfl, by rw [chk2, if_pos (Classical.not_not.1 h1), if_neg h2], rfl⟩
  refine ⟨_, ints_len hv, _, ints_len hu, ?_⟩
  refine ⟨fun h3 => ?_, fun h3 => ?_⟩
  · exact ⟨rfl, by rw [chk2, if_pos (Classical.not_not.1 h1), if_pos (Classical.not_not.1 h2), if_neg (by omega)], rfl⟩
  · exact ⟨rfl, by rw [chk2, if_pos (Classical.not_not.1 h1), if_pos (Classical.not_not.1 h2), if_pos (by omega)], rfl⟩

theorem check_len {xs : List Int} (h : check xs = 0) : 0 < xs.length ∧ xs.length ≤ 9 := by
  unfold check at h
  split at h
  · cases h
  · split at h
    · cases h
    · omega
end Go.Proofs.Ytlpkbcgdcimglaa.Sc

namespace Go.Proofs.Ytlpkbcgdcimglaa.Sc
open Go.AI

end Go.Proofs.Ytlpkbcgdcimglaa.Sc

namespace Go.Proofs.Ytlpkbcgdcimglaa.Sc
open Go.AI
end Go.Proofs.Ytlpkbcgdcimglaa.Sc

namespace Go.Proofs.Ytlpkbcgdcimglaa.Sc
open Go.AI

end Go.Proofs.Ytlpkbcgdcimglaa.Sc

namespace Go.Proofs.Ytlpkbcgdcimglaa.Sc
open Go.AI
set_option maxRecDepth 100000 in
theorem refOf_spec {B : Nat} {v : Value} {H : Heap} {xs : List Int} (hB : B ≤ H.n) (hv : Ints H v xs) :
    CallB Try.prog B 22 [v] H (fun r H' => OfR H xs r H' ∧ Keep H H') := by
  refine CV.enter callees false rfl Try.func22 rfl (by kernel_rfl) (Nat.le_of_ble_eq_true rfl) hB ?_
  repeat' first
    | refine CO.cons rfl ?_
    | refine CO.nil ?_
    | refine CV.seq ?_
    | refine CV.region callees ?_
    | refine CV.cond ?_
    | refine CV.block ?_
    | refine CV.skip ?_
    | refine CV.exit ?_
    | refine CV.ret ?_
    | refine CV.scope ?_
    | refine CV.draw callees (by decide +kernel) ?_
    | refine CH.cons rfl ?_
    | refine CH.nil ?_
    | refine CO.consG rfl ?_
    | refine CH.consG rfl ?_
    | refine CG.cons rfl ?_
    | refine CR.cons ?_
    | refine CR.nil ?_
    | refine CG.nil ?_
    | refine CG.consG rfl ?_
    | refine ⟨(rfl : plain _ = true), ?_⟩
    | refine ⟨(rfl : nilOk _ = some _), ?_⟩
    | refine ⟨_, ints_len (by assumption), ?_⟩
    | refine ⟨_, ints_addr (by assumption) (by omega) (by omega), ?_⟩
    | refine ⟨_, ints_load (by assumption) (by omega) (by omega), ?_⟩
    | refine ⟨(⟨by omega, by omega⟩ : inI64 _), ?_⟩
    | refine ⟨_, fun tm ha => step1_max rfl (ev_tmp ha rfl) (ev_tmp ha rfl), ?_⟩
    | refine ⟨_, fun tm ha => step1_min rfl (ev_tmp ha rfl) (ev_tmp ha rfl), ?_⟩
    | (refine ⟨fun _ => ?_, fun _ => ?_⟩ <;> first | (exfalso; omega) | skip)
    | fail
  · refine ⟨rfl, ?_, Keep.refl _⟩
    rw [OfR, if_pos (by omega)]
  · refine ⟨rfl, ?_, Keep.refl _⟩
    rw [OfR, if_neg (by omega), if_pos (by omega)]
  refine (refof_spec hB hv (by omega)).mono ?_
  rintro r H' ⟨h3, h4⟩
  repeat' first
    | refine CO.cons rfl ?_
    | refine CO.nil ?_
    | refine CV.seq ?_
    | refine CV.region callees ?_
    | refine CV.cond ?_
    | refine CV.block ?_
    | refine CV.skip ?_
    | refine CV.exit ?_
    | refine CV.ret ?_
    | refine CV.scope ?_
    | refine CV.draw callees (by decide +kernel) ?_
    | refine CH.cons rfl ?_
    | refine CH.nil ?_
    | refine CO.consG rfl ?_
    | refine CH.consG rfl ?_
    | refine CG.cons rfl ?_
    | refine CR.cons ?_
    | refine CR.nil ?_
    | refine CG.nil ?_
    | refine CG.consG rfl ?_
    | refine ⟨(rfl : plain _ = true), ?_⟩
    | refine ⟨(rfl : nilOk _ = some _), ?_⟩
    | refine ⟨_, ints_len (by assumption), ?_⟩
    | refine ⟨_, ints_addr (by assumption) (by omega) (by omega), ?_⟩
    | refine ⟨_, ints_load (by assumption) (by omega) (by omega), ?_⟩
    | refine ⟨(⟨by omega, by omega⟩ : inI64 _), ?_⟩
    | refine ⟨_, fun tm ha => step1_max rfl (ev_tmp ha rfl) (ev_tmp ha rfl), ?_⟩
    | refine ⟨_, fun tm ha => step1_min rfl (ev_tmp ha rfl) (ev_tmp ha rfl), ?_⟩
    | (refine ⟨fun _ => ?_, fun _ => ?_⟩ <;> first | (exfalso; omega) | skip)
    | fail
  refine ⟨by simp only [List.all_cons, List.all_nil, h3.notTuple]; rfl, ?_, h4⟩
  rw [OfR, if_neg (by omega), if_neg (by omega)]
  exact ⟨r, rfl, h3⟩

set_option maxRecDepth 100000 in
theorem partitionOf_spec {B b : Nat} {H : Heap} {n : Int} (hB : B ≤ b) (hn : B ≤ H.n) (hb : Box b H) (h1 : 1 ≤ n) (h9 : n ≤ 9) :
    CallB Try.prog B 24 [bp b, .int .i64 n] H (fun r H' => (∃ xs : List Int, check xs = 0 ∧ xs.length = n ∧ Own 3 H' r (xs.map VI) H.n) ∧ Box b H' ∧ KeepX b H H') := by
  refine CV.enter callees false rfl Try.func24 rfl (by kernel_rfl) (Nat.le_of_ble_eq_true rfl) hn ?_
  repeat' first
    | refine CO.cons rfl ?_
    | refine CO.nil ?_
    | refine CV.seq ?_
    | refine CV.region callees ?_
    | refine CV.cond ?_
    | refine CV.block ?_
    | refine CV.skip ?_
    | refine CV.exit ?_
    | refine CV.ret ?_
    | refine CV.scope ?_
    | refine CV.draw callees (by decide +kernel) ?_
    | refine CH.cons rfl ?_
    | refine CH.nil ?_
    | refine CO.consG rfl ?_
    | refine CH.consG rfl ?_
    | refine CG.cons rfl ?_
    | refine CR.cons ?_
    | refine CR.nil ?_
    | refine CG.nil ?_
    | refine CG.consG rfl ?_
    | refine ⟨(rfl : plain _ = true), ?_⟩
    | refine ⟨(rfl : nilOk _ = some _), ?_⟩
    | refine ⟨_, ints_len (by assumption), ?_⟩
    | refine ⟨_, ints_addr (by assumption) (by omega) (by omega), ?_⟩
    | refine ⟨_, ints_load (by assumption) (by omega) (by omega), ?_⟩
    | refine ⟨(⟨by omega, by omega⟩ : inI64 _), ?_⟩
    | refine ⟨_, fun tm ha => step1_max rfl (ev_tmp ha rfl) (ev_tmp ha rfl), ?_⟩
    | refine ⟨_, fun tm ha => step1_min rfl (ev_tmp ha rfl) (ev_tmp ha rfl), ?_⟩
    | (refine ⟨fun _ => ?_, fun _ => ?_⟩ <;> first | (exfalso; omega) | skip)
    | fail
  refine (any_spec hB hn hb (by omega) h1 (by omega)).mono ?_
  rintro r H1 ⟨⟨m, rfl, hm0, hm1⟩, hb1, hk1⟩
  repeat' first
    | refine CO.cons rfl ?_
    | refine CO.nil ?_
    | refine CV.seq ?_
    | refine CV.region callees ?_
    | refine CV.cond ?_
    | refine CV.block ?_
    | refine CV.skip ?_
    | refine CV.exit ?_
    | refine CV.ret ?_
    | refine CV.scope ?_
    | refine CV.draw callees (by decide +kernel) ?_
    | refine CH.cons rfl ?_
    | refine CH.nil ?_
    | refine CO.consG rfl ?_
    | refine CH.consG rfl ?_
    | refine CG.cons rfl ?_
    | refine CR.cons ?_
    | refine CR.nil ?_
    | refine CG.nil ?_
    | refine CG.consG rfl ?_
    | refine ⟨(rfl : plain _ = true), ?_⟩
    | refine ⟨(rfl : nilOk _ = some _), ?_⟩
    | refine ⟨_, ints_len (by assumption), ?_⟩
    | refine ⟨_, ints_addr (by assumption) (by omega) (by omega), ?_⟩
    | refine ⟨_, ints_load (by assumption) (by omega) (by omega), ?_⟩
    | refine ⟨(⟨by omega, by omega⟩ : inI64 _), ?_⟩
    | refine ⟨_, fun tm ha => step1_max rfl (ev_tmp ha rfl) (ev_tmp ha rfl), ?_⟩
    | refine ⟨_, fun tm ha => step1_min rfl (ev_tmp ha rfl) (ev_tmp ha rfl), ?_⟩
    | (refine ⟨fun _ => ?_, fun _ => ?_⟩ <;> first | (exfalso; omega) | skip)
    | fail
  refine CV.loopc ?_
  refine WCv.rounds callees false (α := Value × Int × List Int) (fun (l, i, xs) => [(0, bp b), (1, .int .i64 n), (5, l), (6, .int .i64 m), (7, .int .i64 i)]) (fun (l, i, xs) Hz => 0 ≤ i ∧ i ≤ n ∧ xs.length = i ∧ Own 3 Hz l (xs.map VI) H.n ∧ Box b Hz ∧ KeepX b H Hz) (fun (l, i, xs) => (n - i).toNat) (.slice none 0 0, 0, []) (by repeat' first | exact trivial | refine ⟨rfl, ?_⟩) ?_ ?_
  · exact ⟨by omega, by omega, rfl, .inl ⟨rfl, rfl⟩, hb1, hk1⟩
  rintro ⟨l, i, xs⟩ Hx ⟨hi0, hi1, hlen, hl, hbx, hkx⟩ hBx
  repeat' first
    | refine CO.cons rfl ?_
    | refine CO.nil ?_
    | refine CV.seq ?_
    | refine CV.region callees ?_
    | refine CV.cond ?_
    | refine CV.block ?_
    | refine CV.skip ?_
    | refine CV.exit ?_
    | refine CV.ret ?_
    | refine CV.scope ?_
    | refine CV.draw callees (by decide +kernel) ?_
    | refine CH.cons rfl ?_
    | refine CH.nil ?_
    | refine CO.consG rfl ?_
    | refine CH.consG rfl ?_
    | refine CG.cons rfl ?_
    | refine CR.cons ?_
    | refine CR.nil ?_
    | refine CG.nil ?_
    | refine CG.consG rfl ?_
    | refine ⟨(rfl : plain _ = true), ?_⟩
    | refine ⟨(rfl : nilOk _ = some _), ?_⟩
    | refine ⟨_, ints_len (by assumption), ?_⟩
    | refine ⟨_, ints_addr (by assumption) (by omega) (by omega), ?_⟩
    | refine ⟨_, ints_load (by assumption) (by omega) (by omega), ?_⟩
    | refine ⟨(⟨by omega, by omega⟩ : inI64 _), ?_⟩
    | refine ⟨_, fun tm ha => step1_max rfl (ev_tmp ha rfl) (ev_tmp ha rfl), ?_⟩
    | refine ⟨_, fun tm ha => step1_min rfl (ev_tmp ha rfl) (ev_tmp ha rfl), ?_⟩
    | (refine ⟨fun _ => ?_, fun _ => ?_⟩ <;> first | (exfalso; omega) | skip)
    | fail
  · refine (up_spec hB hBx hbx (by omega)).mono ?_
    rintro r H2 ⟨⟨x, rfl, hx0, hx1⟩, hb2, hk2⟩
    have hl2 := own_box hl hk2 hbx
    have hkx2 := hkx.trans hk2
    repeat' first
      | refine CO.cons rfl ?_
      | refine CO.nil ?_
      | refine CV.seq ?_
      | refine CV.region callees ?_
      | refine CV.cond ?_
      | refine CV.block ?_
      | refine CV.skip ?_
      | refine CV.exit ?_
      | refine CV.ret ?_
      | refine CV.scope ?_
      | refine CV.draw callees (by decide +kernel) ?_
      | refine CH.cons rfl ?_
      | refine CH.nil ?_
      | refine CO.consG rfl ?_
      | refine CH.consG rfl ?_
      | refine CG.cons rfl ?_
      | refine CR.cons ?_
      | refine CR.nil ?_
      | refine CG.nil ?_
      | refine CG.consG rfl ?_
      | refine ⟨(rfl : plain _ = true), ?_⟩
      | refine ⟨(rfl : nilOk _ = some _), ?_⟩
      | refine ⟨_, ints_len (by assumption), ?_⟩
      | refine ⟨_, ints_addr (by assumption) (by omega) (by omega), ?_⟩
      | refine ⟨_, ints_load (by assumption) (by omega) (by omega), ?_⟩
      | refine ⟨(⟨by omega, by omega⟩ : inI64 _), ?_⟩
      | refine ⟨_, fun tm ha => step1_max rfl (ev_tmp ha rfl) (ev_tmp ha rfl), ?_⟩
      | refine ⟨_, fun tm ha => step1_min rfl (ev_tmp ha rfl) (ev_tmp ha rfl), ?_⟩
      | refine ⟨_, _, build_one un22 one3 rfl, ?_⟩
      | (refine ⟨fun _ => ?_, fun _ => ?_⟩ <;> first | (exfalso; omega) | skip)
      | fail
    refine push_ask hl2 hkx2.1 hn (by omega) ?_
    intro l3 H3 hl3 kb3 hf3
    repeat' first
      | refine CO.cons rfl ?_
      | refine CO.nil ?_
      | refine CV.seq ?_
      | refine CV.region callees ?_
      | refine CV.cond ?_
      | refine CV.block ?_
      | refine CV.skip ?_
      | refine CV.exit ?_
      | refine CV.ret ?_
      | refine CV.scope ?_
      | refine CV.draw callees (by decide +kernel) ?_
      | refine CH.cons rfl ?_
      | refine CH.nil ?_
      | refine CO.consG rfl ?_
      | refine CH.consG rfl ?_
      | refine CG.cons rfl ?_
      | refine CR.cons ?_
      | refine CR.nil ?_
      | refine CG.nil ?_
      | refine CG.consG rfl ?_
      | refine ⟨(rfl : plain _ = true), ?_⟩
      | refine ⟨(rfl : nilOk _ = some _), ?_⟩
      | refine ⟨_, ints_len (by assumption), ?_⟩
      | refine ⟨_, ints_addr (by assumption) (by omega) (by omega), ?_⟩
      | refine ⟨_, ints_load (by assumption) (by omega) (by omega), ?_⟩
      | refine ⟨(⟨by omega, by omega⟩ : inI64 _), ?_⟩
      | refine ⟨_, fun tm ha => step1_max rfl (ev_tmp ha rfl) (ev_tmp ha rfl), ?_⟩
      | refine ⟨_, fun tm ha => step1_min rfl (ev_tmp ha rfl) (ev_tmp ha rfl), ?_⟩
      | (refine ⟨fun _ => ?_, fun _ => ?_⟩ <;> first | (exfalso; omega) | skip)
      | fail
    refine ⟨(l3, i + 1, xs ++ [x]), (by repeat' first | exact trivial | refine ⟨rfl, ?_⟩), (by (try dsimp only); omega), ?_⟩
    exact ⟨by omega, by omega, by simp; omega, hl3, hb2.keepBut kb3 (own_apartBox (H0 := H) hl2 hb.1), kb3.keepX hkx2 fun c hc => (hl2.lt hc).1⟩
  · refine (refOf_spec hBx hl.row).mono ?_
    rintro r H2 ⟨hof, hk2⟩
    rw [OfR, if_neg (by omega), if_neg (by omega)] at hof
    obtain ⟨u, rfl, hu⟩ := hof
    repeat' first
      | refine CO.cons rfl ?_
      | refine CO.nil ?_
      | refine CV.seq ?_
      | refine CV.region callees ?_
      | refine CV.cond ?_
      | refine CV.block ?_
      | refine CV.skip ?_
      | refine CV.exit ?_
      | refine CV.ret ?_
      | refine CV.scope ?_
      | refine CV.draw callees (by decide +kernel) ?_
      | refine CH.cons rfl ?_
      | refine CH.nil ?_
      | refine CO.consG rfl ?_
      | refine CH.consG rfl ?_
      | refine CG.cons rfl ?_
      | refine CR.cons ?_
      | refine CR.nil ?_
      | refine CG.nil ?_
      | refine CG.consG rfl ?_
      | refine ⟨(rfl : plain _ = true), ?_⟩
      | refine ⟨(rfl : nilOk _ = some _), ?_⟩
      | refine ⟨_, ints_len (by assumption), ?_⟩
      | refine ⟨_, ints_addr (by assumption) (by omega) (by omega), ?_⟩
      | refine ⟨_, ints_load (by assumption) (by omega) (by omega), ?_⟩
      | refine ⟨(⟨by omega, by omega⟩ : inI64 _), ?_⟩
      | refine ⟨_, fun tm ha => step1_max rfl (ev_tmp ha rfl) (ev_tmp ha rfl), ?_⟩
      | refine ⟨_, fun tm ha => step1_min rfl (ev_tmp ha rfl) (ev_tmp ha rfl), ?_⟩
      | (refine ⟨fun _ => ?_, fun _ => ?_⟩ <;> first | (exfalso; omega) | skip)
      | fail
    refine ⟨by simp only [List.all_cons, List.all_nil, hu.notTuple]; rfl, ⟨num xs [], check_of (by omega) (by omega), by rw [num_length]; omega, ?_⟩, hbx.keep hk2, hkx.trans (hk2.butX b)⟩
    rcases hu with hu | ⟨c, h1, h2, h3, h4⟩
    · exact .inl hu
    · exact .inr ⟨c, h1, Nat.le_trans hkx.1 h2, h3, h4⟩
end Go.Proofs.Ytlpkbcgdcimglaa.Sc

namespace Go.Proofs.Ytlpkbcgdcimglaa.Sc
open Go.AI
theorem chk2_of {xs ys : List Int} (hx : check xs = 0) (hy : check ys = 0) (hl : xs.length = ys.length) : chk2 xs ys = 0 := by rw [chk2, if_pos hx, if_pos hy, if_pos hl]
end Go.Proofs.Ytlpkbcgdcimglaa.Sc

namespace Go.Proofs.Ytlpkbcgdcimglaa.Sc
open Go.AI
end Go.Proofs.Ytlpkbcgdcimglaa.Sc

namespace Go.Proofs.Ytlpkbcgdcimglaa.Sc
open Go.AI
end Go.Proofs.Ytlpkbcgdcimglaa.Sc

namespace Go.Proofs.Ytlpkbcgdcimglaa.Sc
open Go.AI
end Go.Proofs.Ytlpkbcgdcimglaa.Sc

namespace Go.AI
end Go.AI
namespace Go.Proofs.Ytlpkbcgdcimglaa.Sc
open Go.AI
end Go.Proofs.Ytlpkbcgdcimglaa.Sc

namespace Go.Proofs.Ytlpkbcgdcimglaa.Sc
open Go.AI
theorem wrapN {n : Nat} (h : n < 2 ^ 64) : IntKind.wrap .u64 (n : Int) = n := by
  have h2 : (2 : Nat) ^ 64 = 18446744073709551616 := by decide
  exact wrapU (by omega) (by omega)
theorem bvN {n : Nat} : BitVec.ofInt 64 (n : Int) = BitVec.ofNat 64 n := by
  apply BitVec.eq_of_toNat_eq
  rw [BitVec.toNat_ofInt, BitVec.toNat_ofNat]
  omega
theorem andN {a b : Nat} (ha : a < 2 ^ 64) (hb : b < 2 ^ 64) : IntKind.wrap .u64 ((BitVec.ofInt (IntKind.bits .u64) (a : Int) &&& BitVec.ofInt (IntKind.bits .u64) (b : Int)).toNat) = ((a &&& b : Nat) : Int) := by
  rw [show IntKind.bits .u64 = 64 from rfl, bvN, bvN, BitVec.toNat_and, BitVec.toNat_ofNat, BitVec.toNat_ofNat, Nat.mod_eq_of_lt ha, Nat.mod_eq_of_lt hb]
  exact wrapN (Nat.lt_of_le_of_lt Nat.and_le_left ha)
theorem orN {a b : Nat} (ha : a < 2 ^ 64) (hb : b < 2 ^ 64) : IntKind.wrap .u64 ((BitVec.ofInt (IntKind.bits .u64) (a : Int) ||| BitVec.ofInt (IntKind.bits .u64) (b : Int)).toNat) = ((a ||| b : Nat) : Int) := by
  rw [show IntKind.bits .u64 = 64 from rfl, bvN, bvN, BitVec.toNat_or, BitVec.toNat_ofNat, BitVec.toNat_ofNat, Nat.mod_eq_of_lt ha, Nat.mod_eq_of_lt hb]
  exact wrapN (Nat.or_lt_two_pow ha hb)
theorem shrN {a : Nat} {i : Int} (h0 : 0 ≤ i) (h1 : i < 64) : (a : Int).fdiv (2 ^ (min i.toNat (IntKind.bits .u64))) = ((a >>> i.toNat : Nat) : Int) := by
  rw [show IntKind.bits .u64 = 64 from rfl, Nat.min_eq_left (by omega), Int.fdiv_eq_ediv_of_nonneg _ (Int.pow_nonneg (by decide)), Nat.shiftRight_eq_div_pow]
  simp
theorem shlN {i : Int} (h0 : 0 ≤ i) (h1 : i < 64) : IntKind.wrap .u64 (1 * 2 ^ (min i.toNat (IntKind.bits .u64))) = ((1 <<< i.toNat : Nat) : Int) := by
  rw [show IntKind.bits .u64 = 64 from rfl, Nat.min_eq_left (by omega), Nat.one_shiftLeft]
  have := wrapN (n := 2 ^ i.toNat) (Nat.pow_lt_pow_right (by decide) (by omega))
  simpa using this

/-- How many bits there are. -/
def pop (s : Nat) : Nat := ((List.range 9).filter fun i => s.testBit i).length
def andU (a b : Int) : Int := IntKind.wrap .u64 ((BitVec.ofInt (IntKind.bits .u64) a &&& BitVec.ofInt (IntKind.bits .u64) b).toNat)
def addU (a b : Int) : Int := IntKind.wrap .u64 (a + b)
def shrU (a : Int) (n : Nat) : Int := a.fdiv (2 ^ (min n (IntKind.bits .u64)))
def oc (x : Int) : Int :=
  let x1 := addU (andU (shrU x 1) 6148914691236517205) (andU x 6148914691236517205)
  let x2 := addU (andU (shrU x1 2) 3689348814741910323) (andU x1 3689348814741910323)
  let x3 := andU (addU (shrU x2 4) x2) 1085102592571150095
  let x4 := addU x3 (shrU x3 8)
  let x5 := addU x4 (shrU x4 16)
  let x6 := addU x5 (shrU x5 32)
  IntKind.wrap .i64 ((BitVec.ofInt (IntKind.bits .i64) (IntKind.wrap .i64 x6) &&& BitVec.ofInt (IntKind.bits .i64) 127).toNat)
theorem oc_all : (List.range 512).all (fun n => decide (oc (n : Int) = (pop n : Int))) = true := by decide +kernel
theorem oc_pop {n : Nat} (h : n < 512) : oc (n : Int) = (pop n : Int) := by
  have := List.all_eq_true.1 oc_all n (List.mem_range.2 h)
  simpa using this

set_option maxHeartbeats 1000000 in
set_option maxRecDepth 100000 in
theorem ones64_spec {B : Nat} {H : Heap} {x : Int} (hn : B ≤ H.n) :
    CallB Try.prog B 162 [.int .u64 x] H (fun r H' => r = .int .i64 (oc x) ∧ H' = H) := by
  refine CV.enter callees false rfl Try.func162 rfl (by kernel_rfl) (Nat.le_of_ble_eq_true rfl) hn ?_
  repeat' first
    | refine CO.cons rfl ?_
    | refine CO.nil ?_
    | refine CV.seq ?_
    | refine CV.region callees ?_
    | refine CV.cond ?_
    | refine CV.block ?_
    | refine CV.skip ?_
    | refine CV.exit ?_
    | refine CV.ret ?_
    | refine CV.scope ?_
    | refine CV.draw callees (by decide +kernel) ?_
    | refine CH.cons rfl ?_
    | refine CH.nil ?_
    | refine CO.consG rfl ?_
    | refine CH.consG rfl ?_
    | refine CG.cons rfl ?_
    | refine CR.cons ?_
    | refine CR.nil ?_
    | refine CG.nil ?_
    | refine CG.consG rfl ?_
    | refine ⟨(rfl : plain _ = true), ?_⟩
    | refine ⟨(rfl : nilOk _ = some _), ?_⟩
    | refine ⟨_, ints_len (by assumption), ?_⟩
    | refine ⟨_, ints_addr (by assumption) (by omega) (by omega), ?_⟩
    | refine ⟨_, ints_load (by assumption) (by omega) (by omega), ?_⟩
    | refine ⟨(⟨by omega, by omega⟩ : inI64 _), ?_⟩
    | refine ⟨_, fun tm ha => step1_max rfl (ev_tmp ha rfl) (ev_tmp ha rfl), ?_⟩
    | refine ⟨_, fun tm ha => step1_min rfl (ev_tmp ha rfl) (ev_tmp ha rfl), ?_⟩
    | (intro _ hr; subst hr)
    | refine ⟨_, fun tm ha => step1_shr rfl (ev_tmp ha rfl) rfl (by decide), ?_⟩
    | refine ⟨_, fun tm ha => step1_bits (.inr (.inl rfl)) rfl (ev_tmp ha rfl) rfl rfl rfl, ?_⟩
    | refine ⟨_, fun tm ha => step1_conv un72 un3 rfl (ev_tmp ha rfl), ?_⟩
    | (refine ⟨fun _ => ?_, fun _ => ?_⟩ <;> first | (exfalso; omega) | skip)
    | fail
  exact ⟨rfl, rfl, rfl⟩
set_option maxRecDepth 100000 in
theorem ones_spec {B : Nat} {H : Heap} {s : Nat} (hn : B ≤ H.n) (hs : s < 512) :
    CallB Try.prog B 148 [.int .u64 s] H (fun r H' => r = .int .i64 (pop s) ∧ H' = H) := by
  refine CV.enter callees false rfl Try.func148 rfl (by kernel_rfl) (Nat.le_of_ble_eq_true rfl) hn ?_
  repeat' first
    | refine CO.cons rfl ?_
    | refine CO.nil ?_
    | refine CV.seq ?_
    | refine CV.region callees ?_
    | refine CV.cond ?_
    | refine CV.block ?_
    | refine CV.skip ?_
    | refine CV.exit ?_
    | refine CV.ret ?_
    | refine CV.scope ?_
    | refine CV.draw callees (by decide +kernel) ?_
    | refine CH.cons rfl ?_
    | refine CH.nil ?_
    | refine CO.consG rfl ?_
    | refine CH.consG rfl ?_
    | refine CG.cons rfl ?_
    | refine CR.cons ?_
    | refine CR.nil ?_
    | refine CG.nil ?_
    | refine CG.consG rfl ?_
    | refine ⟨(rfl : plain _ = true), ?_⟩
    | refine ⟨(rfl : nilOk _ = some _), ?_⟩
    | refine ⟨_, ints_len (by assumption), ?_⟩
    | refine ⟨_, ints_addr (by assumption) (by omega) (by omega), ?_⟩
    | refine ⟨_, ints_load (by assumption) (by omega) (by omega), ?_⟩
    | refine ⟨(⟨by omega, by omega⟩ : inI64 _), ?_⟩
    | refine ⟨_, fun tm ha => step1_max rfl (ev_tmp ha rfl) (ev_tmp ha rfl), ?_⟩
    | refine ⟨_, fun tm ha => step1_min rfl (ev_tmp ha rfl) (ev_tmp ha rfl), ?_⟩
    | (refine (ones64_spec hn).mono ?_; rintro r H' ⟨rfl, rfl⟩)
    | (refine ⟨fun _ => ?_, fun _ => ?_⟩ <;> first | (exfalso; omega) | skip)
    | fail
  exact ⟨rfl, by rw [oc_pop hs], rfl⟩
end Go.Proofs.Ytlpkbcgdcimglaa.Sc

namespace Go.Proofs.Ytlpkbcgdcimglaa.Sc
open Go.AI
theorem un104 : Try.prog.underlying 158 = some (.array 9 106) := by kernel_rfl
theorem sz76 : sizeB Try.prog 106 = some 1 := by kernel_rfl
theorem ag76 : isAggB Try.prog 106 = some false := by kernel_rfl
theorem sz104 : sizeB Try.prog 158 = some 9 := by kernel_rfl
theorem ag104 : isAggB Try.prog 158 = some true := by kernel_rfl
abbrev VU (n : Nat) : Value := .int .u64 n
def arr (f : Nat → Nat) : List Value := (List.range 9).map fun q => VU (f q)
theorem zero104 : zeroCells Try.prog 158 = some (arr fun _ => 0) := by kernel_rfl
theorem alloc104 {H : Heap} : sAlloc Try.prog H 158 = some (.pointer (some ⟨H.n, 0, none⟩), H.new (.cells (arr fun _ => 0) 158 1), H.n) := alloc_of zero104
theorem arr_len (f : Nat → Nat) : (arr f).length = 9 := by simp [arr]
theorem arr_at {f : Nat → Nat} {i : Nat} (h : i < 9) : (arr f)[i]? = some (VU (f i)) := by simp [arr, h]
theorem arr_set {f : Nat → Nat} {i v : Nat} : (arr f).set i (VU v) = arr fun q => if q = i then v else f q := by
  apply List.ext_getElem
  · simp [arr]
  · intro j h1 h2
    rw [List.getElem_set]
    simp only [arr, List.getElem_map, List.getElem_range]
    by_cases h : i = j
    · rw [if_pos h, if_pos h.symm]
    · rw [if_neg h, if_neg (fun e => h e.symm)]
theorem addr9 {b : Nat} {i : Int} (h0 : 0 ≤ i) (h1 : i < 9) : aindexAddr Try.prog 158 (.pointer (some ⟨b, 0, none⟩)) (.int .i64 i) = some (.pointer (some ⟨b, 0 + i.toNat * 1, none⟩)) := array_addr un104 sz76 h0 (by omega)
theorem load9 {H : Heap} {b : Nat} {f : Nat → Nat} {i : Int} (hb : H.get b = some (.cells (arr f) 158 1)) (h0 : 0 ≤ i) (h1 : i < 9) : aload Try.prog 106 H (.pointer (some ⟨b, 0 + i.toNat * 1, none⟩)) = some (VU (f i.toNat)) := by
  simp only [aload, hb, ag76]
  rw [show 0 + i.toNat * 1 = i.toNat by omega, arr_at (by omega)]
theorem store9 {H : Heap} {b : Nat} {f : Nat → Nat} {i : Int} {v : Nat} (hb : H.get b = some (.cells (arr f) 158 1)) (h0 : 0 ≤ i) (h1 : i < 9) : astore Try.prog 106 H (VU v) (.pointer (some ⟨b, 0 + i.toNat * 1, none⟩)) = some (H.set b (.cells (arr fun q => if q = i.toNat then v else f q) 158 1), b) := by
  rw [show 0 + i.toNat * 1 = i.toNat by omega, store_row sz76 hb (by rw [arr_len]; omega) rfl, arr_set]
theorem loadAll {H : Heap} {b : Nat} {f : Nat → Nat} (hb : H.get b = some (.cells (arr f) 158 1)) : aload Try.prog 158 H (.pointer (some ⟨b, 0, none⟩)) = some (.agg (arr f).toArray) := by
  simp only [aload, hb, ag104, sz104, arr_len]
  rw [if_pos (by omega), List.drop_zero, List.take_of_length_le (by rw [arr_len]; omega)]
theorem storeAll {H : Heap} {b : Nat} {f g : Nat → Nat} (hb : H.get b = some (.cells (arr f) 158 1)) : astore Try.prog 158 H (.agg (arr g).toArray) (.pointer (some ⟨b, 0, none⟩)) = some (H.set b (.cells (arr g) 158 1), b) :=
  store_all hb (by rw [arr_len, arr_len]) (by rw [arr_len]; exact sz104) (by simp [arr, oneC])

/-- Bits, one by one. -/
def dB (f : Nat → Bool) : Nat → Nat
  | 0 => 0
  | k + 1 => dB f k ||| (if f k then 1 <<< k else 0)
theorem dB_lt (f : Nat → Bool) : ∀ k, dB f k < 2 ^ k
  | 0 => by simp [dB]
  | k + 1 => by
    rw [dB]
    refine Nat.or_lt_two_pow (Nat.lt_of_lt_of_le (dB_lt f k) (Nat.pow_le_pow_right (by decide) (by omega))) ?_
    split
    · rw [Nat.one_shiftLeft]; exact Nat.pow_lt_pow_right (by decide) (by omega)
    · exact Nat.two_pow_pos _
theorem dB_bit (f : Nat → Bool) : ∀ k j, (dB f k).testBit j = (decide (j < k) && f j)
  | 0, j => by simp [dB]
  | k + 1, j => by
    rw [dB, Nat.testBit_or, dB_bit f k j]
    by_cases hj : j = k
    · subst hj
      cases hf : f j <;> simp [Nat.one_shiftLeft, Nat.testBit_two_pow]
    · have h1 : decide (j < k + 1) = decide (j < k) := by
        rw [Bool.eq_iff_iff, decide_eq_true_eq, decide_eq_true_eq]; omega
      rw [h1]
      cases hf : f k <;> simp [Nat.one_shiftLeft, Nat.testBit_two_pow, Ne.symm hj]
/-- Whether just one of two partitions has two packets in one block. -/
def dis (xs ys : List Int) (i j : Nat) : Bool := decide (xs[i]! = xs[j]!) != decide (ys[i]! = ys[j]!)
def dM (xs ys : List Int) (i j : Nat) (q : Nat) : Nat := if q < i then dB (dis xs ys q) xs.length else if q = i then dB (dis xs ys q) j else 0
theorem dM_lt {xs ys : List Int} {i j q : Nat} (hl : xs.length ≤ 9) (hj : j ≤ 9) : dM xs ys i j q < 512 := by
  have h9 : (2 : Nat) ^ 9 = 512 := by decide
  unfold dM
  split
  · exact Nat.lt_of_lt_of_le (dB_lt _ _) (by rw [← h9]; exact Nat.pow_le_pow_right (by decide) hl)
  · split
    · exact Nat.lt_of_lt_of_le (dB_lt _ _) (by rw [← h9]; exact Nat.pow_le_pow_right (by decide) hj)
    · decide
theorem dM_zero (xs ys : List Int) : dM xs ys 0 0 = fun _ => 0 := by
  funext q; unfold dM; simp; intro h; subst h; rfl
theorem dM_next {xs ys : List Int} {i : Nat} : dM xs ys i xs.length = dM xs ys (i + 1) 0 := by
  funext q
  unfold dM
  by_cases h1 : q < i
  · rw [if_pos h1, if_pos (by omega)]
  · by_cases h2 : q = i
    · rw [if_neg h1, if_pos h2, if_pos (by omega)]
    · rw [if_neg h1, if_neg h2, if_neg (by omega)]
      by_cases h3 : q = i + 1
      · rw [if_pos h3]; rfl
      · rw [if_neg h3]
theorem dM_put {xs ys : List Int} {i j : Nat} (hd : dis xs ys i j = true) : (fun q => if q = i then dM xs ys i j i ||| (1 <<< j) else dM xs ys i j q) = dM xs ys i (j + 1) := by
  funext q
  by_cases h : q = i
  · subst h
    rw [if_pos rfl]
    simp only [dM, Nat.lt_irrefl, if_false, if_true]
    rw [dB, if_pos hd]
  · rw [if_neg h]
    simp only [dM, h, if_false]
theorem dM_skip {xs ys : List Int} {i j : Nat} (hd : dis xs ys i j = false) : dM xs ys i j = dM xs ys i (j + 1) := by
  funext q
  by_cases h : q = i
  · subst h
    simp only [dM, Nat.lt_irrefl, if_false, if_true]
    rw [dB, hd]; simp
  · simp only [dM, h, if_false]

set_option maxHeartbeats 4000000 in
set_option maxRecDepth 100000 in
theorem disputes_spec {B : Nat} {v u : Value} {H : Heap} {xs ys : List Int} (hB : B ≤ H.n) (hv : Ints H v xs) (hu : Ints H u ys) (hl : xs.length = ys.length) (h9 : xs.length ≤ 9) :
    CallB Try.prog B 147 [v, u] H (fun r H' => r = .agg (arr (dM xs ys xs.length 0)).toArray ∧ Keep H H') := by
  refine CV.enter callees false rfl Try.func147 rfl (by kernel_rfl) (Nat.le_of_ble_eq_true rfl) hB ?_
  repeat' first
    | refine CO.cons rfl ?_
    | refine CO.nil ?_
    | refine CV.seq ?_
    | refine CV.region callees ?_
    | refine CV.cond ?_
    | refine CV.block ?_
    | refine CV.skip ?_
    | refine CV.exit ?_
    | refine CV.ret ?_
    | refine CV.scope ?_
    | refine CV.draw callees (by decide +kernel) ?_
    | refine CH.cons rfl ?_
    | refine CH.nil ?_
    | refine CO.consG rfl ?_
    | refine CH.consG rfl ?_
    | refine CG.cons rfl ?_
    | refine CR.cons ?_
    | refine CR.nil ?_
    | refine CG.nil ?_
    | refine CG.consG rfl ?_
    | refine ⟨(rfl : plain _ = true), ?_⟩
    | refine ⟨(rfl : nilOk _ = some _), ?_⟩
    | refine ⟨_, ints_len (by assumption), ?_⟩
    | refine ⟨_, ints_addr (by assumption) (by omega) (by omega), ?_⟩
    | refine ⟨_, ints_load (by assumption) (by omega) (by omega), ?_⟩
    | refine ⟨(⟨by omega, by omega⟩ : inI64 _), ?_⟩
    | refine ⟨_, fun tm ha => step1_max rfl (ev_tmp ha rfl) (ev_tmp ha rfl), ?_⟩
    | refine ⟨_, fun tm ha => step1_min rfl (ev_tmp ha rfl) (ev_tmp ha rfl), ?_⟩
    | refine ⟨_, _, alloc104, ?_⟩
    | (refine ⟨fun _ => ?_, fun _ => ?_⟩ <;> first | (exfalso; omega) | skip)
    | fail
  have k2 : Keep H ((H.new (.cells (arr fun _ => 0) 158 1)).new (.cells (arr fun _ => 0) 158 1)) := (Keep.new _ _).trans (Keep.new _ _)
  have g4 : ((H.new (.cells (arr fun _ => 0) 158 1)).new (.cells (arr fun _ => 0) 158 1)).get H.n = some (.cells (arr fun _ => 0) 158 1) := by
    rw [Heap.get_new_ne _ _ (by show H.n ≠ H.n + 1; omega), Heap.get_new_eq]
  have g5 : ((H.new (.cells (arr fun _ => 0) 158 1)).new (.cells (arr fun _ => 0) 158 1)).get (H.n + 1) = some (.cells (arr fun _ => 0) 158 1) := Heap.get_new_eq _ _
  have hv2 : Ints _ v xs := Row.keep hv k2
  have hn5 : (H.new (.cells (arr fun _ => 0) 158 1)).n = H.n + 1 := rfl
  rw [hn5]
  generalize (H.new (.cells (arr fun _ => 0) 158 1)).new (.cells (arr fun _ => 0) 158 1) = H2 at k2 g4 g5 hv2
  repeat' first
    | refine CO.cons rfl ?_
    | refine CO.nil ?_
    | refine CV.seq ?_
    | refine CV.region callees ?_
    | refine CV.cond ?_
    | refine CV.block ?_
    | refine CV.skip ?_
    | refine CV.exit ?_
    | refine CV.ret ?_
    | refine CV.scope ?_
    | refine CV.draw callees (by decide +kernel) ?_
    | refine CH.cons rfl ?_
    | refine CH.nil ?_
    | refine CO.consG rfl ?_
    | refine CH.consG rfl ?_
    | refine CG.cons rfl ?_
    | refine CR.cons ?_
    | refine CR.nil ?_
    | refine CG.nil ?_
    | refine CG.consG rfl ?_
    | refine ⟨(rfl : plain _ = true), ?_⟩
    | refine ⟨(rfl : nilOk _ = some _), ?_⟩
    | refine ⟨_, ints_len (by assumption), ?_⟩
    | refine ⟨_, ints_addr (by assumption) (by omega) (by omega), ?_⟩
    | refine ⟨_, ints_load (by assumption) (by omega) (by omega), ?_⟩
    | refine ⟨(⟨by omega, by omega⟩ : inI64 _), ?_⟩
    | refine ⟨_, fun tm ha => step1_max rfl (ev_tmp ha rfl) (ev_tmp ha rfl), ?_⟩
    | refine ⟨_, fun tm ha => step1_min rfl (ev_tmp ha rfl) (ev_tmp ha rfl), ?_⟩
    | (refine ⟨fun _ => ?_, fun _ => ?_⟩ <;> first | (exfalso; omega) | skip)
    | fail
  refine CV.loopc ?_
  refine WCv.rounds callees false (α := Int) (fun i => [(0, v), (1, u), (4, .pointer (some ⟨H.n, 0, none⟩)), (5, .pointer (some ⟨H.n + 1, 0, none⟩)), (9, .int .i64 xs.length), (10, .int .i64 i)]) (fun i Hz => 0 ≤ i ∧ i ≤ xs.length ∧ Keep H Hz ∧ Hz.get H.n = some (.cells (arr fun _ => 0) 158 1) ∧ Hz.get (H.n + 1) = some (.cells (arr (dM xs ys i.toNat 0)) 158 1)) (fun i => xs.length - i.toNat) (0) (by repeat' first | exact trivial | refine ⟨rfl, ?_⟩) ?_ ?_
  · exact ⟨by omega, by omega, k2, g4, by rw [show (0 : Int).toNat = 0 from rfl, dM_zero]; exact g5⟩
  rintro i Hx ⟨hi0, hi1, hkx, hg4, hg5⟩ hBx
  have hvx : Ints Hx v xs := Row.keep hv hkx
  by_cases hi : i < xs.length
  · repeat' first
      | refine CO.cons rfl ?_
      | refine CO.nil ?_
      | refine CV.seq ?_
      | refine CV.region callees ?_
      | refine CV.cond ?_
      | refine CV.block ?_
      | refine CV.skip ?_
      | refine CV.exit ?_
      | refine CV.ret ?_
      | refine CV.scope ?_
      | refine CV.draw callees (by decide +kernel) ?_
      | refine CH.cons rfl ?_
      | refine CH.nil ?_
      | refine CO.consG rfl ?_
      | refine CH.consG rfl ?_
      | refine CG.cons rfl ?_
      | refine CR.cons ?_
      | refine CR.nil ?_
      | refine CG.nil ?_
      | refine CG.consG rfl ?_
      | refine ⟨(rfl : plain _ = true), ?_⟩
      | refine ⟨(rfl : nilOk _ = some _), ?_⟩
      | refine ⟨_, ints_len (by assumption), ?_⟩
      | refine ⟨_, ints_addr (by assumption) (by omega) (by omega), ?_⟩
      | refine ⟨_, ints_load (by assumption) (by omega) (by omega), ?_⟩
      | refine ⟨(⟨by omega, by omega⟩ : inI64 _), ?_⟩
      | refine ⟨_, fun tm ha => step1_max rfl (ev_tmp ha rfl) (ev_tmp ha rfl), ?_⟩
      | refine ⟨_, fun tm ha => step1_min rfl (ev_tmp ha rfl) (ev_tmp ha rfl), ?_⟩
      | (refine ⟨fun _ => ?_, fun _ => ?_⟩ <;> first | (exfalso; omega) | skip)
      | fail
    refine CV.loopc ?_
    refine WCv.rounds callees false (α := Int) (fun j => [(0, v), (1, u), (4, .pointer (some ⟨H.n, 0, none⟩)), (5, .pointer (some ⟨H.n + 1, 0, none⟩)), (9, .int .i64 xs.length), (10, .int .i64 i), (6, .int .i64 i), (14, .int .i64 xs.length), (15, .int .i64 j)]) (fun j Hz => 0 ≤ j ∧ j ≤ xs.length ∧ Keep H Hz ∧ Hz.get H.n = some (.cells (arr fun _ => 0) 158 1) ∧ Hz.get (H.n + 1) = some (.cells (arr (dM xs ys i.toNat j.toNat)) 158 1)) (fun j => xs.length - j.toNat) (0) (by repeat' first | exact trivial | refine ⟨rfl, ?_⟩) ?_ ?_
    · exact ⟨by omega, by omega, hkx, hg4, hg5⟩
    rintro j Hy ⟨hj0, hj1, hky, hy4, hy5⟩ hBy
    have hvy : Ints Hy v xs := Row.keep hv hky
    have huy : Ints Hy u ys := Row.keep hu hky
    by_cases hj : j < xs.length
    · repeat' first
        | refine CO.cons rfl ?_
        | refine CO.nil ?_
        | refine CV.seq ?_
        | refine CV.region callees ?_
        | refine CV.cond ?_
        | refine CV.block ?_
        | refine CV.skip ?_
        | refine CV.exit ?_
        | refine CV.ret ?_
        | refine CV.scope ?_
        | refine CV.draw callees (by decide +kernel) ?_
        | refine CH.cons rfl ?_
        | refine CH.nil ?_
        | refine CO.consG rfl ?_
        | refine CH.consG rfl ?_
        | refine CG.cons rfl ?_
        | refine CR.cons ?_
        | refine CR.nil ?_
        | refine CG.nil ?_
        | refine CG.consG rfl ?_
        | refine ⟨(rfl : plain _ = true), ?_⟩
        | refine ⟨(rfl : nilOk _ = some _), ?_⟩
        | refine ⟨_, ints_len (by assumption), ?_⟩
        | refine ⟨_, ints_addr (by assumption) (by omega) (by omega), ?_⟩
        | refine ⟨_, ints_load (by assumption) (by omega) (by omega), ?_⟩
        | refine ⟨(⟨by omega, by omega⟩ : inI64 _), ?_⟩
        | refine ⟨_, fun tm ha => step1_max rfl (ev_tmp ha rfl) (ev_tmp ha rfl), ?_⟩
        | refine ⟨_, fun tm ha => step1_min rfl (ev_tmp ha rfl) (ev_tmp ha rfl), ?_⟩
        | refine ⟨_, fun tm ha => step1_boolNeq un4 rfl (ev_tmp ha rfl) (ev_tmp ha rfl), ?_⟩
        | refine ⟨_, addr9 (by omega) (by omega), ?_⟩
        | refine ⟨_, load9 hy5 (by omega) (by omega), ?_⟩
        | refine ⟨_, fun tm ha => step1_shl rfl rfl (ev_tmp ha rfl) (by omega), ?_⟩
        | refine ⟨_, fun tm ha => step1_bits (.inr (.inr (.inl rfl))) rfl (ev_tmp ha rfl) (ev_tmp ha rfl) rfl rfl, ?_⟩
        | (refine ⟨fun _ => ?_, fun _ => ?_⟩ <;> first | (exfalso; omega) | skip)
        | fail
      · refine ⟨(j + 1), (by repeat' first | exact trivial | refine ⟨rfl, ?_⟩), (by (try dsimp only); omega), ?_⟩
        refine ⟨by omega, by omega, hky, hy4, ?_⟩
        rw [show (j + 1).toNat = j.toNat + 1 by omega, ← dM_skip (by unfold dis; rw [decide_eq_true (by assumption), decide_eq_true (by assumption)]; rfl)]
        exact hy5
      · have hd : dis xs ys i.toNat j.toNat = true := by unfold dis; rw [decide_eq_true (by assumption), decide_eq_false (by assumption)]; rfl
        have h1 := dM_lt (xs := xs) (ys := ys) (i := i.toNat) (j := j.toNat) (q := i.toNat) h9 (by omega)
        rw [shlN hj0 (by omega), orN (Nat.lt_trans h1 (by decide)) (by rw [Nat.one_shiftLeft]; exact Nat.pow_lt_pow_right (by decide) (by omega))]
        refine ⟨_, _, store9 hy5 hi0 (by omega), by omega, ?_⟩
        repeat' first
          | refine CO.cons rfl ?_
          | refine CO.nil ?_
          | refine CV.seq ?_
          | refine CV.region callees ?_
          | refine CV.cond ?_
          | refine CV.block ?_
          | refine CV.skip ?_
          | refine CV.exit ?_
          | refine CV.ret ?_
          | refine CV.scope ?_
          | refine CV.draw callees (by decide +kernel) ?_
          | refine CH.cons rfl ?_
          | refine CH.nil ?_
          | refine CO.consG rfl ?_
          | refine CH.consG rfl ?_
          | refine CG.cons rfl ?_
          | refine CR.cons ?_
          | refine CR.nil ?_
          | refine CG.nil ?_
          | refine CG.consG rfl ?_
          | refine ⟨(rfl : plain _ = true), ?_⟩
          | refine ⟨(rfl : nilOk _ = some _), ?_⟩
          | refine ⟨_, ints_len (by assumption), ?_⟩
          | refine ⟨_, ints_addr (by assumption) (by omega) (by omega), ?_⟩
          | refine ⟨_, ints_load (by assumption) (by omega) (by omega), ?_⟩
          | refine ⟨(⟨by omega, by omega⟩ : inI64 _), ?_⟩
          | refine ⟨_, fun tm ha => step1_max rfl (ev_tmp ha rfl) (ev_tmp ha rfl), ?_⟩
          | refine ⟨_, fun tm ha => step1_min rfl (ev_tmp ha rfl) (ev_tmp ha rfl), ?_⟩
          | (refine ⟨fun _ => ?_, fun _ => ?_⟩ <;> first | (exfalso; omega) | skip)
          | fail
        refine ⟨(j + 1), (by repeat' first | exact trivial | refine ⟨rfl, ?_⟩), (by (try dsimp only); omega), ?_⟩
        refine ⟨by omega, by omega, hky.set _ (by omega), ?_, ?_⟩
        · rw [Heap.get_set_ne _ _ (by omega)]; exact hy4
        · rw [Heap.get_set_eq, show (j + 1).toNat = j.toNat + 1 by omega, ← dM_put hd]
      · have hd : dis xs ys i.toNat j.toNat = true := by unfold dis; rw [decide_eq_false (by assumption), decide_eq_true (by assumption)]; rfl
        have h1 := dM_lt (xs := xs) (ys := ys) (i := i.toNat) (j := j.toNat) (q := i.toNat) h9 (by omega)
        rw [shlN hj0 (by omega), orN (Nat.lt_trans h1 (by decide)) (by rw [Nat.one_shiftLeft]; exact Nat.pow_lt_pow_right (by decide) (by omega))]
        refine ⟨_, _, store9 hy5 hi0 (by omega), by omega, ?_⟩
        repeat' first
          | refine CO.cons rfl ?_
          | refine CO.nil ?_
          | refine CV.seq ?_
          | refine CV.region callees ?_
          | refine CV.cond ?_
          | refine CV.block ?_
          | refine CV.skip ?_
          | refine CV.exit ?_
          | refine CV.ret ?_
          | refine CV.scope ?_
          | refine CV.draw callees (by decide +kernel) ?_
          | refine CH.cons rfl ?_
          | refine CH.nil ?_
          | refine CO.consG rfl ?_
          | refine CH.consG rfl ?_
          | refine CG.cons rfl ?_
          | refine CR.cons ?_
          | refine CR.nil ?_
          | refine CG.nil ?_
          | refine CG.consG rfl ?_
          | refine ⟨(rfl : plain _ = true), ?_⟩
          | refine ⟨(rfl : nilOk _ = some _), ?_⟩
          | refine ⟨_, ints_len (by assumption), ?_⟩
          | refine ⟨_, ints_addr (by assumption) (by omega) (by omega), ?_⟩
          | refine ⟨_, ints_load (by assumption) (by omega) (by omega), ?_⟩
          | refine ⟨(⟨by omega, by omega⟩ : inI64 _), ?_⟩
          | refine ⟨_, fun tm ha => step1_max rfl (ev_tmp ha rfl) (ev_tmp ha rfl), ?_⟩
          | refine ⟨_, fun tm ha => step1_min rfl (ev_tmp ha rfl) (ev_tmp ha rfl), ?_⟩
          | (refine ⟨fun _ => ?_, fun _ => ?_⟩ <;> first | (exfalso; omega) | skip)
          | fail
        refine ⟨(j + 1), (by repeat' first | exact trivial | refine ⟨rfl, ?_⟩), (by (try dsimp only); omega), ?_⟩
        refine ⟨by omega, by omega, hky.set _ (by omega), ?_, ?_⟩
        · rw [Heap.get_set_ne _ _ (by omega)]; exact hy4
        · rw [Heap.get_set_eq, show (j + 1).toNat = j.toNat + 1 by omega, ← dM_put hd]
      · refine ⟨(j + 1), (by repeat' first | exact trivial | refine ⟨rfl, ?_⟩), (by (try dsimp only); omega), ?_⟩
        refine ⟨by omega, by omega, hky, hy4, ?_⟩
        rw [show (j + 1).toNat = j.toNat + 1 by omega, ← dM_skip (by unfold dis; rw [decide_eq_false (by assumption), decide_eq_false (by assumption)]; rfl)]
        exact hy5
    · repeat' first
        | refine CO.cons rfl ?_
        | refine CO.nil ?_
        | refine CV.seq ?_
        | refine CV.region callees ?_
        | refine CV.cond ?_
        | refine CV.block ?_
        | refine CV.skip ?_
        | refine CV.exit ?_
        | refine CV.ret ?_
        | refine CV.scope ?_
        | refine CV.draw callees (by decide +kernel) ?_
        | refine CH.cons rfl ?_
        | refine CH.nil ?_
        | refine CO.consG rfl ?_
        | refine CH.consG rfl ?_
        | refine CG.cons rfl ?_
        | refine CR.cons ?_
        | refine CR.nil ?_
        | refine CG.nil ?_
        | refine CG.consG rfl ?_
        | refine ⟨(rfl : plain _ = true), ?_⟩
        | refine ⟨(rfl : nilOk _ = some _), ?_⟩
        | refine ⟨_, ints_len (by assumption), ?_⟩
        | refine ⟨_, ints_addr (by assumption) (by omega) (by omega), ?_⟩
        | refine ⟨_, ints_load (by assumption) (by omega) (by omega), ?_⟩
        | refine ⟨(⟨by omega, by omega⟩ : inI64 _), ?_⟩
        | refine ⟨_, fun tm ha => step1_max rfl (ev_tmp ha rfl) (ev_tmp ha rfl), ?_⟩
        | refine ⟨_, fun tm ha => step1_min rfl (ev_tmp ha rfl) (ev_tmp ha rfl), ?_⟩
        | (refine ⟨fun _ => ?_, fun _ => ?_⟩ <;> first | (exfalso; omega) | skip)
        | fail
      refine ⟨(i + 1), (by repeat' first | exact trivial | refine ⟨rfl, ?_⟩), (by (try dsimp only); omega), ?_⟩
      refine ⟨by omega, by omega, hky, hy4, ?_⟩
      rw [show (i + 1).toNat = i.toNat + 1 by omega, ← dM_next, show xs.length = j.toNat by omega]
      exact hy5
  · repeat' first
      | refine CO.cons rfl ?_
      | refine CO.nil ?_
      | refine CV.seq ?_
      | refine CV.region callees ?_
      | refine CV.cond ?_
      | refine CV.block ?_
      | refine CV.skip ?_
      | refine CV.exit ?_
      | refine CV.ret ?_
      | refine CV.scope ?_
      | refine CV.draw callees (by decide +kernel) ?_
      | refine CH.cons rfl ?_
      | refine CH.nil ?_
      | refine CO.consG rfl ?_
      | refine CH.consG rfl ?_
      | refine CG.cons rfl ?_
      | refine CR.cons ?_
      | refine CR.nil ?_
      | refine CG.nil ?_
      | refine CG.consG rfl ?_
      | refine ⟨(rfl : plain _ = true), ?_⟩
      | refine ⟨(rfl : nilOk _ = some _), ?_⟩
      | refine ⟨_, ints_len (by assumption), ?_⟩
      | refine ⟨_, ints_addr (by assumption) (by omega) (by omega), ?_⟩
      | refine ⟨_, ints_load (by assumption) (by omega) (by omega), ?_⟩
      | refine ⟨(⟨by omega, by omega⟩ : inI64 _), ?_⟩
      | refine ⟨_, fun tm ha => step1_max rfl (ev_tmp ha rfl) (ev_tmp ha rfl), ?_⟩
      | refine ⟨_, fun tm ha => step1_min rfl (ev_tmp ha rfl) (ev_tmp ha rfl), ?_⟩
      | refine ⟨_, loadAll hg5, ?_⟩
      | (refine ⟨fun _ => ?_, fun _ => ?_⟩ <;> first | (exfalso; omega) | skip)
      | fail
    refine ⟨_, _, storeAll hg4, hB, ?_⟩
    have hg : (Hx.set H.n (.cells (arr (dM xs ys i.toNat 0)) 158 1)).get H.n = some (.cells (arr (dM xs ys i.toNat 0)) 158 1) := Heap.get_set_eq _ _ _
    repeat' first
      | refine CO.cons rfl ?_
      | refine CO.nil ?_
      | refine CV.seq ?_
      | refine CV.region callees ?_
      | refine CV.cond ?_
      | refine CV.block ?_
      | refine CV.skip ?_
      | refine CV.exit ?_
      | refine CV.ret ?_
      | refine CV.scope ?_
      | refine CV.draw callees (by decide +kernel) ?_
      | refine CH.cons rfl ?_
      | refine CH.nil ?_
      | refine CO.consG rfl ?_
      | refine CH.consG rfl ?_
      | refine CG.cons rfl ?_
      | refine CR.cons ?_
      | refine CR.nil ?_
      | refine CG.nil ?_
      | refine CG.consG rfl ?_
      | refine ⟨(rfl : plain _ = true), ?_⟩
      | refine ⟨(rfl : nilOk _ = some _), ?_⟩
      | refine ⟨_, ints_len (by assumption), ?_⟩
      | refine ⟨_, ints_addr (by assumption) (by omega) (by omega), ?_⟩
      | refine ⟨_, ints_load (by assumption) (by omega) (by omega), ?_⟩
      | refine ⟨(⟨by omega, by omega⟩ : inI64 _), ?_⟩
      | refine ⟨_, fun tm ha => step1_max rfl (ev_tmp ha rfl) (ev_tmp ha rfl), ?_⟩
      | refine ⟨_, fun tm ha => step1_min rfl (ev_tmp ha rfl) (ev_tmp ha rfl), ?_⟩
      | (refine ⟨fun _ => ?_, fun _ => ?_⟩ <;> first | (exfalso; omega) | skip)
      | fail
    rw [show i.toNat = xs.length by omega] at hg
    rw [show i.toNat = xs.length by omega]
    exact ⟨_, loadAll hg, rfl, rfl, hkx.set _ (Nat.le_refl _)⟩
end Go.Proofs.Ytlpkbcgdcimglaa.Sc

namespace Go.Proofs.Ytlpkbcgdcimglaa.Sc
open Go.AI
/-- A set of packets of which no two are in dispute. -/
def Good (d : Nat → Nat) (n s : Nat) : Prop := ∀ i, i < n → s.testBit i = true → s &&& d i = 0
structure Most (d : Nat → Nat) (n m : Nat) : Prop where
  has : ∃ t, t < 2 ^ n ∧ Good d n t ∧ pop t = m
  top : ∀ t, t < 2 ^ n → Good d n t → pop t ≤ m
theorem pop_le (s : Nat) : pop s ≤ 9 := by
  unfold pop
  exact Nat.le_trans (List.length_filter_le _ _) (by simp)
theorem pop_zero : pop 0 = 0 := by decide
theorem good_zero {d : Nat → Nat} {n : Nat} : Good d n 0 := fun i _ h => by simp at h
theorem bit_one {s i : Nat} : ((s >>> i &&& 1 : Nat) : Int) = 1 ↔ s.testBit i = true := by
  rw [Nat.testBit, Nat.and_comm 1]
  have h := Nat.and_one_is_mod (s >>> i)
  rw [h]
  constructor
  · intro h1
    have : s >>> i % 2 = 1 := by omega
    rw [this]; rfl
  · intro h1
    have : s >>> i % 2 = 0 ∨ s >>> i % 2 = 1 := by omega
    rcases this with h2 | h2
    · rw [h2] at h1; cases h1
    · omega

set_option maxHeartbeats 4000000 in
set_option maxRecDepth 100000 in
theorem staying_spec {B : Nat} {v u : Value} {H : Heap} {xs ys : List Int} (hB : B ≤ H.n) (hv : Ints H v xs) (hu : Ints H u ys) (hl : xs.length = ys.length) (h9 : xs.length ≤ 9) :
    CallB Try.prog B 138 [v, u] H (fun r H' => (∃ m : Nat, r = .int .i64 m ∧ Most (dM xs ys xs.length 0) xs.length m) ∧ Keep H H') := by
  have h29 : (2 : Nat) ^ xs.length ≤ 512 := by
    have := Nat.pow_le_pow_right (n := 2) (by decide) h9
    rwa [show (2 : Nat) ^ 9 = 512 by decide] at this
  refine CV.enter callees false rfl Try.func138 rfl (by kernel_rfl) (Nat.le_of_ble_eq_true rfl) hB ?_
  repeat' first
    | refine CO.cons rfl ?_
    | refine CO.nil ?_
    | refine CV.seq ?_
    | refine CV.region callees ?_
    | refine CV.cond ?_
    | refine CV.block ?_
    | refine CV.skip ?_
    | refine CV.exit ?_
    | refine CV.ret ?_
    | refine CV.scope ?_
    | refine CV.draw callees (by decide +kernel) ?_
    | refine CH.cons rfl ?_
    | refine CH.nil ?_
    | refine CO.consG rfl ?_
    | refine CH.consG rfl ?_
    | refine CG.cons rfl ?_
    | refine CR.cons ?_
    | refine CR.nil ?_
    | refine CG.nil ?_
    | refine CG.consG rfl ?_
    | refine ⟨(rfl : plain _ = true), ?_⟩
    | refine ⟨(rfl : nilOk _ = some _), ?_⟩
    | refine ⟨_, ints_len (by assumption), ?_⟩
    | refine ⟨_, ints_addr (by assumption) (by omega) (by omega), ?_⟩
    | refine ⟨_, ints_load (by assumption) (by omega) (by omega), ?_⟩
    | refine ⟨(⟨by omega, by omega⟩ : inI64 _), ?_⟩
    | refine ⟨_, fun tm ha => step1_max rfl (ev_tmp ha rfl) (ev_tmp ha rfl), ?_⟩
    | refine ⟨_, fun tm ha => step1_min rfl (ev_tmp ha rfl) (ev_tmp ha rfl), ?_⟩
    | (refine ⟨fun _ => ?_, fun _ => ?_⟩ <;> first | (exfalso; omega) | skip)
    | fail
  refine (disputes_spec hB hv hu hl h9).mono ?_
  rintro r H1 ⟨rfl, k1⟩
  have hB1 := Nat.le_trans hB k1.1
  have hg0 : (H1.new (.cells (arr fun _ => 0) 158 1)).get H1.n = some (.cells (arr fun _ => 0) 158 1) := Heap.get_new_eq _ _
  repeat' first
    | refine CO.cons rfl ?_
    | refine CO.nil ?_
    | refine CV.seq ?_
    | refine CV.region callees ?_
    | refine CV.cond ?_
    | refine CV.block ?_
    | refine CV.skip ?_
    | refine CV.exit ?_
    | refine CV.ret ?_
    | refine CV.scope ?_
    | refine CV.draw callees (by decide +kernel) ?_
    | refine CH.cons rfl ?_
    | refine CH.nil ?_
    | refine CO.consG rfl ?_
    | refine CH.consG rfl ?_
    | refine CG.cons rfl ?_
    | refine CR.cons ?_
    | refine CR.nil ?_
    | refine CG.nil ?_
    | refine CG.consG rfl ?_
    | refine ⟨(rfl : plain _ = true), ?_⟩
    | refine ⟨(rfl : nilOk _ = some _), ?_⟩
    | refine ⟨_, ints_len (by assumption), ?_⟩
    | refine ⟨_, ints_addr (by assumption) (by omega) (by omega), ?_⟩
    | refine ⟨_, ints_load (by assumption) (by omega) (by omega), ?_⟩
    | refine ⟨(⟨by omega, by omega⟩ : inI64 _), ?_⟩
    | refine ⟨_, fun tm ha => step1_max rfl (ev_tmp ha rfl) (ev_tmp ha rfl), ?_⟩
    | refine ⟨_, fun tm ha => step1_min rfl (ev_tmp ha rfl) (ev_tmp ha rfl), ?_⟩
    | refine ⟨_, _, alloc104, ?_⟩
    | refine ⟨_, _, storeAll hg0, hB1, ?_⟩
    | (refine ⟨fun _ => ?_, fun _ => ?_⟩ <;> first | (exfalso; omega) | skip)
    | fail
  have k2 : Keep H ((H1.new (.cells (arr fun _ => 0) 158 1)).set H1.n (.cells (arr (dM xs ys xs.length 0)) 158 1)) := k1.trans ((Keep.new _ _).set _ (Nat.le_refl _))
  have hg2 : ((H1.new (.cells (arr fun _ => 0) 158 1)).set H1.n (.cells (arr (dM xs ys xs.length 0)) 158 1)).get H1.n = some (.cells (arr (dM xs ys xs.length 0)) 158 1) := Heap.get_set_eq _ _ _
  have hv2 : Ints _ v xs := Row.keep hv k2
  generalize (H1.new (.cells (arr fun _ => 0) 158 1)).set H1.n (.cells (arr (dM xs ys xs.length 0)) 158 1) = H2 at k2 hg2 hv2 ⊢
  obtain ⟨d, hd⟩ : ∃ d, dM xs ys xs.length 0 = d := ⟨_, rfl⟩
  have hdlt : ∀ q, d q < 512 := fun q => by rw [← hd]; exact dM_lt h9 (by omega)
  rw [hd] at hg2 ⊢
  repeat' first
    | refine CO.cons rfl ?_
    | refine CO.nil ?_
    | refine CV.seq ?_
    | refine CV.region callees ?_
    | refine CV.cond ?_
    | refine CV.block ?_
    | refine CV.skip ?_
    | refine CV.exit ?_
    | refine CV.ret ?_
    | refine CV.scope ?_
    | refine CV.draw callees (by decide +kernel) ?_
    | refine CH.cons rfl ?_
    | refine CH.nil ?_
    | refine CO.consG rfl ?_
    | refine CH.consG rfl ?_
    | refine CG.cons rfl ?_
    | refine CR.cons ?_
    | refine CR.nil ?_
    | refine CG.nil ?_
    | refine CG.consG rfl ?_
    | refine ⟨(rfl : plain _ = true), ?_⟩
    | refine ⟨(rfl : nilOk _ = some _), ?_⟩
    | refine ⟨_, ints_len (by assumption), ?_⟩
    | refine ⟨_, ints_addr (by assumption) (by omega) (by omega), ?_⟩
    | refine ⟨_, ints_load (by assumption) (by omega) (by omega), ?_⟩
    | refine ⟨(⟨by omega, by omega⟩ : inI64 _), ?_⟩
    | refine ⟨_, fun tm ha => step1_max rfl (ev_tmp ha rfl) (ev_tmp ha rfl), ?_⟩
    | refine ⟨_, fun tm ha => step1_min rfl (ev_tmp ha rfl) (ev_tmp ha rfl), ?_⟩
    | refine CV.label ?_
    | refine ⟨_, fun tm ha => step1_shl rfl rfl (ev_tmp ha rfl) (by omega), ?_⟩
    | (refine ⟨fun _ => ?_, fun _ => ?_⟩ <;> first | (exfalso; omega) | skip)
    | fail
  rw [shlN (by omega) (by omega), Int.toNat_natCast, Nat.one_shiftLeft]
  repeat' first
    | refine CO.cons rfl ?_
    | refine CO.nil ?_
    | refine CV.seq ?_
    | refine CV.region callees ?_
    | refine CV.cond ?_
    | refine CV.block ?_
    | refine CV.skip ?_
    | refine CV.exit ?_
    | refine CV.ret ?_
    | refine CV.scope ?_
    | refine CV.draw callees (by decide +kernel) ?_
    | refine CH.cons rfl ?_
    | refine CH.nil ?_
    | refine CO.consG rfl ?_
    | refine CH.consG rfl ?_
    | refine CG.cons rfl ?_
    | refine CR.cons ?_
    | refine CR.nil ?_
    | refine CG.nil ?_
    | refine CG.consG rfl ?_
    | refine ⟨(rfl : plain _ = true), ?_⟩
    | refine ⟨(rfl : nilOk _ = some _), ?_⟩
    | refine ⟨_, ints_len (by assumption), ?_⟩
    | refine ⟨_, ints_addr (by assumption) (by omega) (by omega), ?_⟩
    | refine ⟨_, ints_load (by assumption) (by omega) (by omega), ?_⟩
    | refine ⟨(⟨by omega, by omega⟩ : inI64 _), ?_⟩
    | refine ⟨_, fun tm ha => step1_max rfl (ev_tmp ha rfl) (ev_tmp ha rfl), ?_⟩
    | refine ⟨_, fun tm ha => step1_min rfl (ev_tmp ha rfl) (ev_tmp ha rfl), ?_⟩
    | (refine ⟨fun _ => ?_, fun _ => ?_⟩ <;> first | (exfalso; omega) | skip)
    | fail
  refine CV.loopc ?_
  refine WCv.rounds callees false (α := Nat × Nat) (fun (s, m) => [(0, v), (5, .pointer (some ⟨H1.n, 0, none⟩)), (6, .int .i64 m), (15, VU (2 ^ xs.length)), (16, VU s)]) (fun (s, m) Hz => Hz = H2 ∧ s ≤ 2 ^ xs.length ∧ (∃ t, t < 2 ^ xs.length ∧ Good d xs.length t ∧ pop t = m) ∧ ∀ t, t < s → Good d xs.length t → pop t ≤ m) (fun (s, m) => 2 ^ xs.length - s) (0, 0) (by repeat' first | exact trivial | refine ⟨rfl, ?_⟩) ?_ ?_
  · exact ⟨rfl, Nat.zero_le _, ⟨0, Nat.two_pow_pos _, good_zero, pop_zero⟩, fun t h => by omega⟩
  rintro ⟨s, m⟩ Hx ⟨rfl, hs, hhas, htop⟩ hBx
  have next : ∀ m' : Nat, m ≤ m' → (Good d xs.length s → pop s ≤ m') → ∀ t, t < s + 1 → Good d xs.length t → pop t ≤ m' := fun m' hm h t ht hg => by
    by_cases h' : t < s
    · exact Nat.le_trans (htop t h' hg) hm
    · have : t = s := by omega
      subst this; exact h hg
  by_cases hsn : s < 2 ^ xs.length
  · have hps := pop_le s
    repeat' first
      | refine CO.cons rfl ?_
      | refine CO.nil ?_
      | refine CV.seq ?_
      | refine CV.region callees ?_
      | refine CV.cond ?_
      | refine CV.block ?_
      | refine CV.skip ?_
      | refine CV.exit ?_
      | refine CV.ret ?_
      | refine CV.scope ?_
      | refine CV.draw callees (by decide +kernel) ?_
      | refine CH.cons rfl ?_
      | refine CH.nil ?_
      | refine CO.consG rfl ?_
      | refine CH.consG rfl ?_
      | refine CG.cons rfl ?_
      | refine CR.cons ?_
      | refine CR.nil ?_
      | refine CG.nil ?_
      | refine CG.consG rfl ?_
      | refine ⟨(rfl : plain _ = true), ?_⟩
      | refine ⟨(rfl : nilOk _ = some _), ?_⟩
      | refine ⟨_, ints_len (by assumption), ?_⟩
      | refine ⟨_, ints_addr (by assumption) (by omega) (by omega), ?_⟩
      | refine ⟨_, ints_load (by assumption) (by omega) (by omega), ?_⟩
      | refine ⟨(⟨by omega, by omega⟩ : inI64 _), ?_⟩
      | refine ⟨_, fun tm ha => step1_max rfl (ev_tmp ha rfl) (ev_tmp ha rfl), ?_⟩
      | refine ⟨_, fun tm ha => step1_min rfl (ev_tmp ha rfl) (ev_tmp ha rfl), ?_⟩
      | (refine (ones_spec hBx (by omega)).mono ?_; rintro r H' ⟨rfl, rfl⟩)
      | (refine ⟨fun _ => ?_, fun _ => ?_⟩ <;> first | (exfalso; omega) | skip)
      | fail
    · intro r hr
      rw [show (s : Int) + 1 = ((s + 1 : Nat) : Int) by omega, wrapN (Nat.lt_of_lt_of_le (by omega : s + 1 < 1024) (by decide))] at hr
      subst hr
      repeat' first
        | refine CO.cons rfl ?_
        | refine CO.nil ?_
        | refine CV.seq ?_
        | refine CV.region callees ?_
        | refine CV.cond ?_
        | refine CV.block ?_
        | refine CV.skip ?_
        | refine CV.exit ?_
        | refine CV.ret ?_
        | refine CV.scope ?_
        | refine CV.draw callees (by decide +kernel) ?_
        | refine CH.cons rfl ?_
        | refine CH.nil ?_
        | refine CO.consG rfl ?_
        | refine CH.consG rfl ?_
        | refine CG.cons rfl ?_
        | refine CR.cons ?_
        | refine CR.nil ?_
        | refine CG.nil ?_
        | refine CG.consG rfl ?_
        | refine ⟨(rfl : plain _ = true), ?_⟩
        | refine ⟨(rfl : nilOk _ = some _), ?_⟩
        | refine ⟨_, ints_len (by assumption), ?_⟩
        | refine ⟨_, ints_addr (by assumption) (by omega) (by omega), ?_⟩
        | refine ⟨_, ints_load (by assumption) (by omega) (by omega), ?_⟩
        | refine ⟨(⟨by omega, by omega⟩ : inI64 _), ?_⟩
        | refine ⟨_, fun tm ha => step1_max rfl (ev_tmp ha rfl) (ev_tmp ha rfl), ?_⟩
        | refine ⟨_, fun tm ha => step1_min rfl (ev_tmp ha rfl) (ev_tmp ha rfl), ?_⟩
        | (refine ⟨fun _ => ?_, fun _ => ?_⟩ <;> first | (exfalso; omega) | skip)
        | fail
      refine ⟨(s + 1, m), (by repeat' first | exact trivial | refine ⟨rfl, ?_⟩), (by (try dsimp only); omega), ?_⟩
      exact ⟨rfl, by omega, hhas, next m (Nat.le_refl _) fun _ => by omega⟩
    refine CV.loopc ?_
    refine WCv.rounds callees false (α := Int) (fun i => [(0, v), (5, .pointer (some ⟨H1.n, 0, none⟩)), (6, .int .i64 m), (7, VU s), (8, .int .i64 (pop s)), (15, VU (2 ^ xs.length)), (16, VU s), (25, .int .i64 xs.length), (26, .int .i64 i)]) (fun i Hz => Hz = H' ∧ 0 ≤ i ∧ i ≤ xs.length ∧ ∀ k : Nat, (k : Int) < i → s.testBit k = true → s &&& d k = 0) (fun i => xs.length - i.toNat) (0) (by repeat' first | exact trivial | refine ⟨rfl, ?_⟩) ?_ ?_
    · exact ⟨rfl, by omega, by omega, fun k h => by omega⟩
    rintro i Hy ⟨rfl, hi0, hi1, hgood⟩ hBy
    by_cases hi : i < xs.length
    · have hs64 : s < 2 ^ 64 := Nat.lt_of_lt_of_le (by omega : s < 1024) (by decide)
      have e1 : IntKind.wrap .u64 ((BitVec.ofInt (IntKind.bits .u64) ((s : Int).fdiv (2 ^ (min i.toNat (IntKind.bits .u64)))) &&& BitVec.ofInt (IntKind.bits .u64) 1).toNat) = ((s >>> i.toNat &&& 1 : Nat) : Int) := by
        rw [shrN hi0 (by omega)]
        exact andN (Nat.lt_of_le_of_lt (Nat.shiftRight_le _ _) hs64) (by decide)
      have e2 : IntKind.wrap .u64 ((BitVec.ofInt (IntKind.bits .u64) (s : Int) &&& BitVec.ofInt (IntKind.bits .u64) (d i.toNat : Int)).toNat) = ((s &&& d i.toNat : Nat) : Int) :=
        andN hs64 (Nat.lt_trans (hdlt _) (by decide))
      repeat' first
        | refine CO.cons rfl ?_
        | refine CO.nil ?_
        | refine CV.seq ?_
        | refine CV.region callees ?_
        | refine CV.cond ?_
        | refine CV.block ?_
        | refine CV.skip ?_
        | refine CV.exit ?_
        | refine CV.ret ?_
        | refine CV.scope ?_
        | refine CV.draw callees (by decide +kernel) ?_
        | refine CH.cons rfl ?_
        | refine CH.nil ?_
        | refine CO.consG rfl ?_
        | refine CH.consG rfl ?_
        | refine CG.cons rfl ?_
        | refine CR.cons ?_
        | refine CR.nil ?_
        | refine CG.nil ?_
        | refine CG.consG rfl ?_
        | refine ⟨(rfl : plain _ = true), ?_⟩
        | refine ⟨(rfl : nilOk _ = some _), ?_⟩
        | refine ⟨_, ints_len (by assumption), ?_⟩
        | refine ⟨_, ints_addr (by assumption) (by omega) (by omega), ?_⟩
        | refine ⟨_, ints_load (by assumption) (by omega) (by omega), ?_⟩
        | refine ⟨(⟨by omega, by omega⟩ : inI64 _), ?_⟩
        | refine ⟨_, fun tm ha => step1_max rfl (ev_tmp ha rfl) (ev_tmp ha rfl), ?_⟩
        | refine ⟨_, fun tm ha => step1_min rfl (ev_tmp ha rfl) (ev_tmp ha rfl), ?_⟩
        | refine ⟨_, fun tm ha => step1_shr rfl (ev_tmp ha rfl) (ev_tmp ha rfl) (by omega), ?_⟩
        | refine ⟨_, fun tm ha => step1_bits (.inr (.inl rfl)) rfl (ev_tmp ha rfl) rfl rfl rfl, ?_⟩
        | refine ⟨_, fun tm ha => step1_bits (.inr (.inl rfl)) rfl (ev_tmp ha rfl) (ev_tmp ha rfl) rfl rfl, ?_⟩
        | refine ⟨_, addr9 (by omega) (by omega), ?_⟩
        | refine ⟨_, load9 hg2 (by omega) (by omega), ?_⟩
        | (refine ⟨fun _ => ?_, fun _ => ?_⟩ <;> first | (exfalso; omega) | skip)
        | fail
      · rename_i h1 h2
        rw [e1] at h1
        rw [e2] at h2
        intro r hr
        rw [show (s : Int) + 1 = ((s + 1 : Nat) : Int) by omega, wrapN (Nat.lt_of_lt_of_le (by omega : s + 1 < 1024) (by decide))] at hr
        subst hr
        repeat' first
          | refine CO.cons rfl ?_
          | refine CO.nil ?_
          | refine CV.seq ?_
          | refine CV.region callees ?_
          | refine CV.cond ?_
          | refine CV.block ?_
          | refine CV.skip ?_
          | refine CV.exit ?_
          | refine CV.ret ?_
          | refine CV.scope ?_
          | refine CV.draw callees (by decide +kernel) ?_
          | refine CH.cons rfl ?_
          | refine CH.nil ?_
          | refine CO.consG rfl ?_
          | refine CH.consG rfl ?_
          | refine CG.cons rfl ?_
          | refine CR.cons ?_
          | refine CR.nil ?_
          | refine CG.nil ?_
          | refine CG.consG rfl ?_
          | refine ⟨(rfl : plain _ = true), ?_⟩
          | refine ⟨(rfl : nilOk _ = some _), ?_⟩
          | refine ⟨_, ints_len (by assumption), ?_⟩
          | refine ⟨_, ints_addr (by assumption) (by omega) (by omega), ?_⟩
          | refine ⟨_, ints_load (by assumption) (by omega) (by omega), ?_⟩
          | refine ⟨(⟨by omega, by omega⟩ : inI64 _), ?_⟩
          | refine ⟨_, fun tm ha => step1_max rfl (ev_tmp ha rfl) (ev_tmp ha rfl), ?_⟩
          | refine ⟨_, fun tm ha => step1_min rfl (ev_tmp ha rfl) (ev_tmp ha rfl), ?_⟩
          | (refine ⟨fun _ => ?_, fun _ => ?_⟩ <;> first | (exfalso; omega) | skip)
          | fail
        refine ⟨(s + 1, m), (by repeat' first | exact trivial | refine ⟨rfl, ?_⟩), (by (try dsimp only); omega), ?_⟩
        exact ⟨rfl, by omega, hhas, next m (Nat.le_refl _) fun hg => absurd (by rw [hg i.toNat (by omega) (bit_one.1 h1)]; rfl) h2⟩
      · rename_i h1 h2
        rw [e1] at h1
        rw [e2] at h2
        refine ⟨(i + 1), (by repeat' first | exact trivial | refine ⟨rfl, ?_⟩), (by (try dsimp only); omega), ?_⟩
        refine ⟨rfl, by omega, by omega, fun k hk hb => ?_⟩
        by_cases h : (k : Int) < i
        · exact hgood k h hb
        · rw [show k = i.toNat by omega]
          have := Classical.not_not.1 h2
          omega
      · rename_i h1
        rw [e1] at h1
        refine ⟨(i + 1), (by repeat' first | exact trivial | refine ⟨rfl, ?_⟩), (by (try dsimp only); omega), ?_⟩
        refine ⟨rfl, by omega, by omega, fun k hk hb => ?_⟩
        by_cases h : (k : Int) < i
        · exact hgood k h hb
        · rw [show k = i.toNat by omega] at hb
          exact absurd (bit_one.2 hb) h1
    · have hgs : Good d xs.length s := fun k hk hb => hgood k (by omega) hb
      repeat' first
        | refine CO.cons rfl ?_
        | refine CO.nil ?_
        | refine CV.seq ?_
        | refine CV.region callees ?_
        | refine CV.cond ?_
        | refine CV.block ?_
        | refine CV.skip ?_
        | refine CV.exit ?_
        | refine CV.ret ?_
        | refine CV.scope ?_
        | refine CV.draw callees (by decide +kernel) ?_
        | refine CH.cons rfl ?_
        | refine CH.nil ?_
        | refine CO.consG rfl ?_
        | refine CH.consG rfl ?_
        | refine CG.cons rfl ?_
        | refine CR.cons ?_
        | refine CR.nil ?_
        | refine CG.nil ?_
        | refine CG.consG rfl ?_
        | refine ⟨(rfl : plain _ = true), ?_⟩
        | refine ⟨(rfl : nilOk _ = some _), ?_⟩
        | refine ⟨_, ints_len (by assumption), ?_⟩
        | refine ⟨_, ints_addr (by assumption) (by omega) (by omega), ?_⟩
        | refine ⟨_, ints_load (by assumption) (by omega) (by omega), ?_⟩
        | refine ⟨(⟨by omega, by omega⟩ : inI64 _), ?_⟩
        | refine ⟨_, fun tm ha => step1_max rfl (ev_tmp ha rfl) (ev_tmp ha rfl), ?_⟩
        | refine ⟨_, fun tm ha => step1_min rfl (ev_tmp ha rfl) (ev_tmp ha rfl), ?_⟩
        | (refine ⟨fun _ => ?_, fun _ => ?_⟩ <;> first | (exfalso; omega) | skip)
        | fail
      intro r hr
      rw [show (s : Int) + 1 = ((s + 1 : Nat) : Int) by omega, wrapN (Nat.lt_of_lt_of_le (by omega : s + 1 < 1024) (by decide))] at hr
      subst hr
      repeat' first
        | refine CO.cons rfl ?_
        | refine CO.nil ?_
        | refine CV.seq ?_
        | refine CV.region callees ?_
        | refine CV.cond ?_
        | refine CV.block ?_
        | refine CV.skip ?_
        | refine CV.exit ?_
        | refine CV.ret ?_
        | refine CV.scope ?_
        | refine CV.draw callees (by decide +kernel) ?_
        | refine CH.cons rfl ?_
        | refine CH.nil ?_
        | refine CO.consG rfl ?_
        | refine CH.consG rfl ?_
        | refine CG.cons rfl ?_
        | refine CR.cons ?_
        | refine CR.nil ?_
        | refine CG.nil ?_
        | refine CG.consG rfl ?_
        | refine ⟨(rfl : plain _ = true), ?_⟩
        | refine ⟨(rfl : nilOk _ = some _), ?_⟩
        | refine ⟨_, ints_len (by assumption), ?_⟩
        | refine ⟨_, ints_addr (by assumption) (by omega) (by omega), ?_⟩
        | refine ⟨_, ints_load (by assumption) (by omega) (by omega), ?_⟩
        | refine ⟨(⟨by omega, by omega⟩ : inI64 _), ?_⟩
        | refine ⟨_, fun tm ha => step1_max rfl (ev_tmp ha rfl) (ev_tmp ha rfl), ?_⟩
        | refine ⟨_, fun tm ha => step1_min rfl (ev_tmp ha rfl) (ev_tmp ha rfl), ?_⟩
        | (refine ⟨fun _ => ?_, fun _ => ?_⟩ <;> first | (exfalso; omega) | skip)
        | fail
      refine ⟨(s + 1, pop s), (by repeat' first | exact trivial | refine ⟨rfl, ?_⟩), (by (try dsimp only); omega), ?_⟩
      exact ⟨rfl, by omega, ⟨s, hsn, hgs, rfl⟩, next (pop s) (by omega) fun _ => Nat.le_refl _⟩
  · repeat' first
      | refine CO.cons rfl ?_
      | refine CO.nil ?_
      | refine CV.seq ?_
      | refine CV.region callees ?_
      | refine CV.cond ?_
      | refine CV.block ?_
      | refine CV.skip ?_
      | refine CV.exit ?_
      | refine CV.ret ?_
      | refine CV.scope ?_
      | refine CV.draw callees (by decide +kernel) ?_
      | refine CH.cons rfl ?_
      | refine CH.nil ?_
      | refine CO.consG rfl ?_
      | refine CH.consG rfl ?_
      | refine CG.cons rfl ?_
      | refine CR.cons ?_
      | refine CR.nil ?_
      | refine CG.nil ?_
      | refine CG.consG rfl ?_
      | refine ⟨(rfl : plain _ = true), ?_⟩
      | refine ⟨(rfl : nilOk _ = some _), ?_⟩
      | refine ⟨_, ints_len (by assumption), ?_⟩
      | refine ⟨_, ints_addr (by assumption) (by omega) (by omega), ?_⟩
      | refine ⟨_, ints_load (by assumption) (by omega) (by omega), ?_⟩
      | refine ⟨(⟨by omega, by omega⟩ : inI64 _), ?_⟩
      | refine ⟨_, fun tm ha => step1_max rfl (ev_tmp ha rfl) (ev_tmp ha rfl), ?_⟩
      | refine ⟨_, fun tm ha => step1_min rfl (ev_tmp ha rfl) (ev_tmp ha rfl), ?_⟩
      | (refine ⟨fun _ => ?_, fun _ => ?_⟩ <;> first | (exfalso; omega) | skip)
      | fail
    exact ⟨rfl, ⟨m, rfl, ⟨hhas, fun t ht => htop t (by omega)⟩⟩, k2⟩

set_option maxRecDepth 100000 in
theorem moves_spec {B : Nat} {v u : Value} {H : Heap} {xs ys : List Int} (hB : B ≤ H.n) (hv : Ints H v xs) (hu : Ints H u ys) (hx : check xs = 0) (hy : check ys = 0) (hl : xs.length = ys.length) :
    CallB Try.prog B 112 [v, u] H (fun r H' => (∃ m : Nat, r = .tuple #[.int .i64 ((xs.length : Int) - m), .int .i64 0] ∧ Most (dM xs ys xs.length 0) xs.length m) ∧ Keep H H') := by
  have hlx := check_len hx
  refine CV.enter callees false rfl Try.func112 rfl (by kernel_rfl) (Nat.le_of_ble_eq_true rfl) hB ?_
  repeat' first
    | refine CO.cons rfl ?_
    | refine CO.nil ?_
    | refine CV.seq ?_
    | refine CV.region callees ?_
    | refine CV.cond ?_
    | refine CV.block ?_
    | refine CV.skip ?_
    | refine CV.exit ?_
    | refine CV.ret ?_
    | refine CV.scope ?_
    | refine CV.draw callees (by decide +kernel) ?_
    | refine CH.cons rfl ?_
    | refine CH.nil ?_
    | refine CO.consG rfl ?_
    | refine CH.consG rfl ?_
    | refine CG.cons rfl ?_
    | refine CR.cons ?_
    | refine CR.nil ?_
    | refine CG.nil ?_
    | refine CG.consG rfl ?_
    | refine ⟨(rfl : plain _ = true), ?_⟩
    | refine ⟨(rfl : nilOk _ = some _), ?_⟩
    | refine ⟨_, ints_len (by assumption), ?_⟩
    | refine ⟨_, ints_addr (by assumption) (by omega) (by omega), ?_⟩
    | refine ⟨_, ints_load (by assumption) (by omega) (by omega), ?_⟩
    | refine ⟨(⟨by omega, by omega⟩ : inI64 _), ?_⟩
    | refine ⟨_, fun tm ha => step1_max rfl (ev_tmp ha rfl) (ev_tmp ha rfl), ?_⟩
    | refine ⟨_, fun tm ha => step1_min rfl (ev_tmp ha rfl) (ev_tmp ha rfl), ?_⟩
    | (refine ⟨fun _ => ?_, fun _ => ?_⟩ <;> first | (exfalso; omega) | skip)
    | fail
  refine (checkBoth_spec hB hv hu).mono ?_
  rintro r H1 ⟨rfl, rfl⟩
  rw [chk2_of hx hy hl]
  repeat' first
    | refine CO.cons rfl ?_
    | refine CO.nil ?_
    | refine CV.seq ?_
    | refine CV.region callees ?_
    | refine CV.cond ?_
    | refine CV.block ?_
    | refine CV.skip ?_
    | refine CV.exit ?_
    | refine CV.ret ?_
    | refine CV.scope ?_
    | refine CV.draw callees (by decide +kernel) ?_
    | refine CH.cons rfl ?_
    | refine CH.nil ?_
    | refine CO.consG rfl ?_
    | refine CH.consG rfl ?_
    | refine CG.cons rfl ?_
    | refine CR.cons ?_
    | refine CR.nil ?_
    | refine CG.nil ?_
    | refine CG.consG rfl ?_
    | refine ⟨(rfl : plain _ = true), ?_⟩
    | refine ⟨(rfl : nilOk _ = some _), ?_⟩
    | refine ⟨_, ints_len (by assumption), ?_⟩
    | refine ⟨_, ints_addr (by assumption) (by omega) (by omega), ?_⟩
    | refine ⟨_, ints_load (by assumption) (by omega) (by omega), ?_⟩
    | refine ⟨(⟨by omega, by omega⟩ : inI64 _), ?_⟩
    | refine ⟨_, fun tm ha => step1_max rfl (ev_tmp ha rfl) (ev_tmp ha rfl), ?_⟩
    | refine ⟨_, fun tm ha => step1_min rfl (ev_tmp ha rfl) (ev_tmp ha rfl), ?_⟩
    | (refine ⟨fun _ => ?_, fun _ => ?_⟩ <;> first | (exfalso; omega) | skip)
    | fail
  refine (staying_spec hB hv hu hl hlx.2).mono ?_
  rintro r H2 ⟨⟨m, rfl, hm⟩, k2⟩
  obtain ⟨t, _, _, rfl⟩ := hm.has
  have := pop_le t
  repeat' first
    | refine CO.cons rfl ?_
    | refine CO.nil ?_
    | refine CV.seq ?_
    | refine CV.region callees ?_
    | refine CV.cond ?_
    | refine CV.block ?_
    | refine CV.skip ?_
    | refine CV.exit ?_
    | refine CV.ret ?_
    | refine CV.scope ?_
    | refine CV.draw callees (by decide +kernel) ?_
    | refine CH.cons rfl ?_
    | refine CH.nil ?_
    | refine CO.consG rfl ?_
    | refine CH.consG rfl ?_
    | refine CG.cons rfl ?_
    | refine CR.cons ?_
    | refine CR.nil ?_
    | refine CG.nil ?_
    | refine CG.consG rfl ?_
    | refine ⟨(rfl : plain _ = true), ?_⟩
    | refine ⟨(rfl : nilOk _ = some _), ?_⟩
    | refine ⟨_, ints_len (by assumption), ?_⟩
    | refine ⟨_, ints_addr (by assumption) (by omega) (by omega), ?_⟩
    | refine ⟨_, ints_load (by assumption) (by omega) (by omega), ?_⟩
    | refine ⟨(⟨by omega, by omega⟩ : inI64 _), ?_⟩
    | refine ⟨_, fun tm ha => step1_max rfl (ev_tmp ha rfl) (ev_tmp ha rfl), ?_⟩
    | refine ⟨_, fun tm ha => step1_min rfl (ev_tmp ha rfl) (ev_tmp ha rfl), ?_⟩
    | (refine ⟨fun _ => ?_, fun _ => ?_⟩ <;> first | (exfalso; omega) | skip)
    | fail
  exact ⟨rfl, ⟨_, rfl, hm⟩, k2⟩
end Go.Proofs.Ytlpkbcgdcimglaa.Sc

namespace Go.Proofs.Ytlpkbcgdcimglaa.Sc
open Go.AI
def Agr (a b : List Int) (n s : Nat) : Prop := ∀ i j, i < n → j < n → s.testBit i = true → s.testBit j = true → (a[i]! = a[j]! ↔ b[i]! = b[j]!)
theorem dis_false {a b : List Int} {i j : Nat} : dis a b i j = false ↔ (a[i]! = a[j]! ↔ b[i]! = b[j]!) := by
  unfold dis
  by_cases h1 : a[i]! = a[j]! <;> by_cases h2 : b[i]! = b[j]! <;> simp [h1, h2]
theorem dM_row {a b : List Int} {i : Nat} (h : i < a.length) : dM a b a.length 0 i = dB (dis a b i) a.length := by
  unfold dM; rw [if_pos h]
theorem good_iff {a b : List Int} {s : Nat} : Good (dM a b a.length 0) a.length s ↔ Agr a b a.length s := by
  constructor
  · intro h i j hi hj h1 h2
    have := h i hi h1
    rw [dM_row hi] at this
    have h3 : (s &&& dB (dis a b i) a.length).testBit j = false := by rw [this]; simp
    rw [Nat.testBit_and, dB_bit, h2, decide_eq_true hj, Bool.true_and, Bool.true_and] at h3
    exact dis_false.1 h3
  · intro h i hi h1
    rw [dM_row hi]
    apply Nat.eq_of_testBit_eq
    intro j
    rw [Nat.testBit_and, dB_bit, Nat.zero_testBit]
    by_cases hj : j < a.length
    · cases h2 : s.testBit j with
      | false => rfl
      | true => rw [dis_false.2 (h i j hi hj h1 h2)]; simp
    · rw [decide_eq_false hj]; simp
theorem pop_in : ((List.range 10).all fun n => (List.range (2 ^ n)).all fun s => decide (pop s ≤ n) && (decide (pop s ≠ n) || (List.range n).all fun i => s.testBit i)) = true := by decide +kernel
theorem pop_le_n {n s : Nat} (hn : n ≤ 9) (hs : s < 2 ^ n) : pop s ≤ n ∧ (pop s = n → ∀ i, i < n → s.testBit i = true) := by
  have h1 := List.all_eq_true.1 (List.all_eq_true.1 pop_in n (List.mem_range.2 (by omega))) s (List.mem_range.2 hs)
  simp only [Bool.and_eq_true, Bool.or_eq_true, decide_eq_true_eq, List.all_eq_true, List.mem_range] at h1
  refine ⟨h1.1, fun h i hi => ?_⟩
  rcases h1.2 with h2 | h2
  · exact absurd h h2
  · exact h2 i hi
/-- The greatest number of packets that can stay. -/
structure Stay (a b : List Int) (m : Nat) : Prop where
  has : ∃ t, t < 2 ^ a.length ∧ Agr a b a.length t ∧ pop t = m
  top : ∀ t, t < 2 ^ a.length → Agr a b a.length t → pop t ≤ m
theorem Most.stay {a b : List Int} {m : Nat} (h : Most (dM a b a.length 0) a.length m) : Stay a b m :=
  ⟨by obtain ⟨t, h1, h2, h3⟩ := h.has; exact ⟨t, h1, good_iff.1 h2, h3⟩, fun t h1 h2 => h.top t h1 (good_iff.2 h2)⟩
theorem Stay.le {a b : List Int} {m : Nat} (h9 : a.length ≤ 9) (h : Stay a b m) : m ≤ a.length := by
  obtain ⟨t, h1, _, rfl⟩ := h.has
  exact (pop_le_n h9 h1).1
end Go.Proofs.Ytlpkbcgdcimglaa.Sc

namespace Go.Proofs.Ytlpkbcgdcimglaa.Sc
open Go.AI
end Go.Proofs.Ytlpkbcgdcimglaa.Sc
namespace Go.AI
open Go.Proofs.Ytlpkbcgdcimglaa Go.Proofs.Ytlpkbcgdcimglaa.Sc
end Go.AI

namespace Go.Proofs.Ytlpkbcgdcimglaa.Sc
open Go.AI
/-- Something is written. -/
def wrt (ws : List Int) (i : Nat) : Bool := decide (ws[i]! ≠ -1)
/-- A pair is right. -/
def prR (ts ws : List Int) (k i : Nat) : Bool := decide (ws[i]! = ws[k]!) == decide (ts[i]! = ts[k]!)
def rtN (ts ws : List Int) (k : Nat) : Nat → Nat
  | 0 => 0
  | i + 1 => rtN ts ws k i + if wrt ws i = true ∧ prR ts ws k i = true then 1 else 0
def wgN (ts ws : List Int) (k : Nat) : Nat → Nat
  | 0 => 0
  | i + 1 => wgN ts ws k i + if wrt ws i = true ∧ prR ts ws k i = false then 1 else 0
def pkN (ts ws : List Int) : Nat → Nat
  | 0 => 0
  | i + 1 => pkN ts ws i + if wrt ws i = true ∧ wgN ts ws i i = 0 then 1 else 0
def wrN (ts ws : List Int) : Nat → Nat
  | 0 => 0
  | i + 1 => wrN ts ws i + if wrt ws i = true ∧ wgN ts ws i i ≠ 0 then 1 else 0
def prN (ts ws : List Int) : Nat → Nat
  | 0 => 0
  | i + 1 => prN ts ws i + if wrt ws i = true then rtN ts ws i i else 0
def stN (ts ws : List Int) : Nat → Nat
  | 0 => 0
  | i + 1 => stN ts ws i + if wrt ws i = true ∧ wgN ts ws i i = 0 ∧ stN ts ws i = i then 1 else 0
/-- No other number is the one at this place. -/
def alo (l : List Int) (i : Nat) : Bool := !decide (l[i]! ∈ l.take i) && !decide (l[i]! ∈ l.drop (i + 1))
def hdN (ts ws : List Int) : Nat → Nat
  | 0 => 0
  | i + 1 => hdN ts ws i + if wrt ws i = true ∧ alo ts i = true ∧ alo ws i = true then 1 else 0
theorem rw_le (ts ws : List Int) (k : Nat) : ∀ i, rtN ts ws k i + wgN ts ws k i ≤ i
  | 0 => Nat.le_refl _
  | i + 1 => by
    have := rw_le ts ws k i
    rw [rtN, wgN]
    cases wrt ws i <;> cases prR ts ws k i <;> simp <;> omega
theorem pk_le (ts ws : List Int) : ∀ i, pkN ts ws i + wrN ts ws i ≤ i
  | 0 => Nat.le_refl _
  | i + 1 => by
    have := pk_le ts ws i
    rw [pkN, wrN]
    by_cases h : wgN ts ws i i = 0 <;> cases wrt ws i <;> simp [h] <;> omega
theorem st_le (ts ws : List Int) : ∀ i, stN ts ws i ≤ pkN ts ws i
  | 0 => Nat.le_refl _
  | i + 1 => by
    have := st_le ts ws i
    rw [stN, pkN]
    by_cases h : wgN ts ws i i = 0 <;> by_cases h2 : stN ts ws i = i <;> cases wrt ws i <;> simp [h, h2] <;> omega
theorem hd_le (ts ws : List Int) : ∀ i, hdN ts ws i ≤ i
  | 0 => Nat.le_refl _
  | i + 1 => by
    have := hd_le ts ws i
    rw [hdN]
    split <;> omega
theorem pr_le (ts ws : List Int) : ∀ i, i ≤ 9 → prN ts ws i ≤ 9 * i
  | 0, _ => Nat.le_refl _
  | i + 1, h => by
    have := pr_le ts ws i (by omega)
    have := rw_le ts ws i i
    rw [prN]
    split <;> omega
/-- The honour of an answer. -/
def Hon (ts ws : List Int) (h : Int) : Prop := (-1 ∈ ws ∧ h = 0) ∨ (-1 ∉ ws ∧ ∃ m : Nat, Stay (num ws []) ts m ∧ h = max (3 - ((ws.length : Int) - m)) 0)
end Go.Proofs.Ytlpkbcgdcimglaa.Sc

namespace Go.Proofs.Ytlpkbcgdcimglaa.Sc
open Go.AI
end Go.Proofs.Ytlpkbcgdcimglaa.Sc

namespace Go.Proofs.Ytlpkbcgdcimglaa.Sc
open Go.AI
theorem ints_slice {K : Value → Prop} {H : Heap} {v : Value} {xs : List Int} {i : Int} (hv : Ints H v xs) (h0 : 0 ≤ i) (h1 : i ≤ xs.length) (hk : ∀ r, Ints H r (xs.take i.toNat) → K r) :
    ∃ r, aslice Try.prog 22 v none (some (some (.int .i64 i))) = some r ∧ K r := by
  obtain ⟨r, h2, h3⟩ := row_slice (kd := .i64) un22 sz3 hv h0 (by simpa using h1)
  exact ⟨r, h2, hk r (by rw [← List.map_take] at h3; exact h3)⟩
set_option maxRecDepth 100000 in
theorem contains_spec {B : Nat} {H : Heap} {v : Value} {xs : List Int} {t : Int} (hB : B ≤ H.n) (hv : Ints H v xs) (hn : xs.length < 1000000) :
    CallB Try.prog B 144 [v, .int .i64 t] H (fun r H' => r = .bool (decide (t ∈ xs)) ∧ H' = H) := by
  refine CV.enter callees false rfl Try.func144 rfl (by kernel_rfl) (Nat.le_of_ble_eq_true rfl) hB ?_
  repeat' first
    | refine CO.cons rfl ?_
    | refine CO.nil ?_
    | refine CV.seq ?_
    | refine CV.region callees ?_
    | refine CV.cond ?_
    | refine CV.block ?_
    | refine CV.skip ?_
    | refine CV.exit ?_
    | refine CV.ret ?_
    | refine CV.scope ?_
    | refine CV.draw callees (by decide +kernel) ?_
    | refine CH.cons rfl ?_
    | refine CH.nil ?_
    | refine CO.consG rfl ?_
    | refine CH.consG rfl ?_
    | refine CG.cons rfl ?_
    | refine CR.cons ?_
    | refine CR.nil ?_
    | refine CG.nil ?_
    | refine CG.consG rfl ?_
    | refine ⟨(rfl : plain _ = true), ?_⟩
    | refine ⟨(rfl : nilOk _ = some _), ?_⟩
    | refine ⟨_, ints_len (by assumption), ?_⟩
    | refine ⟨_, ints_addr (by assumption) (by omega) (by omega), ?_⟩
    | refine ⟨_, ints_load (by assumption) (by omega) (by omega), ?_⟩
    | refine ⟨(⟨by omega, by omega⟩ : inI64 _), ?_⟩
    | refine ⟨_, fun tm ha => step1_max rfl (ev_tmp ha rfl) (ev_tmp ha rfl), ?_⟩
    | refine ⟨_, fun tm ha => step1_min rfl (ev_tmp ha rfl) (ev_tmp ha rfl), ?_⟩
    | (refine ⟨fun _ => ?_, fun _ => ?_⟩ <;> first | (exfalso; omega) | skip)
    | fail
  refine (index_spec hB hv hn).mono ?_
  rintro r H1 ⟨rfl, rfl⟩
  by_cases h : t ∈ xs
  · rw [if_pos h]
    repeat' first
      | refine CO.cons rfl ?_
      | refine CO.nil ?_
      | refine CV.seq ?_
      | refine CV.region callees ?_
      | refine CV.cond ?_
      | refine CV.block ?_
      | refine CV.skip ?_
      | refine CV.exit ?_
      | refine CV.ret ?_
      | refine CV.scope ?_
      | refine CV.draw callees (by decide +kernel) ?_
      | refine CH.cons rfl ?_
      | refine CH.nil ?_
      | refine CO.consG rfl ?_
      | refine CH.consG rfl ?_
      | refine CG.cons rfl ?_
      | refine CR.cons ?_
      | refine CR.nil ?_
      | refine CG.nil ?_
      | refine CG.consG rfl ?_
      | refine ⟨(rfl : plain _ = true), ?_⟩
      | refine ⟨(rfl : nilOk _ = some _), ?_⟩
      | refine ⟨_, ints_len (by assumption), ?_⟩
      | refine ⟨_, ints_addr (by assumption) (by omega) (by omega), ?_⟩
      | refine ⟨_, ints_load (by assumption) (by omega) (by omega), ?_⟩
      | refine ⟨(⟨by omega, by omega⟩ : inI64 _), ?_⟩
      | refine ⟨_, fun tm ha => step1_max rfl (ev_tmp ha rfl) (ev_tmp ha rfl), ?_⟩
      | refine ⟨_, fun tm ha => step1_min rfl (ev_tmp ha rfl) (ev_tmp ha rfl), ?_⟩
      | (refine ⟨fun _ => ?_, fun _ => ?_⟩ <;> first | (exfalso; omega) | skip)
      | fail
    exact ⟨rfl, by simp [h], rfl⟩
  · rw [if_neg h]
    repeat' first
      | refine CO.cons rfl ?_
      | refine CO.nil ?_
      | refine CV.seq ?_
      | refine CV.region callees ?_
      | refine CV.cond ?_
      | refine CV.block ?_
      | refine CV.skip ?_
      | refine CV.exit ?_
      | refine CV.ret ?_
      | refine CV.scope ?_
      | refine CV.draw callees (by decide +kernel) ?_
      | refine CH.cons rfl ?_
      | refine CH.nil ?_
      | refine CO.consG rfl ?_
      | refine CH.consG rfl ?_
      | refine CG.cons rfl ?_
      | refine CR.cons ?_
      | refine CR.nil ?_
      | refine CG.nil ?_
      | refine CG.consG rfl ?_
      | refine ⟨(rfl : plain _ = true), ?_⟩
      | refine ⟨(rfl : nilOk _ = some _), ?_⟩
      | refine ⟨_, ints_len (by assumption), ?_⟩
      | refine ⟨_, ints_addr (by assumption) (by omega) (by omega), ?_⟩
      | refine ⟨_, ints_load (by assumption) (by omega) (by omega), ?_⟩
      | refine ⟨(⟨by omega, by omega⟩ : inI64 _), ?_⟩
      | refine ⟨_, fun tm ha => step1_max rfl (ev_tmp ha rfl) (ev_tmp ha rfl), ?_⟩
      | refine ⟨_, fun tm ha => step1_min rfl (ev_tmp ha rfl) (ev_tmp ha rfl), ?_⟩
      | (refine ⟨fun _ => ?_, fun _ => ?_⟩ <;> first | (exfalso; omega) | skip)
      | fail
    exact ⟨rfl, by simp [h], rfl⟩
set_option maxRecDepth 100000 in
theorem written_spec {B : Nat} {H : Heap} {n : Int} (hB : B ≤ H.n) :
    CallB Try.prog B 135 [.int .i64 n] H (fun r H' => r = .bool (decide (n ≠ -1)) ∧ H' = H) := by
  refine CV.enter callees false rfl Try.func135 rfl (by kernel_rfl) (Nat.le_of_ble_eq_true rfl) hB ?_
  repeat' first
    | refine CO.cons rfl ?_
    | refine CO.nil ?_
    | refine CV.seq ?_
    | refine CV.region callees ?_
    | refine CV.cond ?_
    | refine CV.block ?_
    | refine CV.skip ?_
    | refine CV.exit ?_
    | refine CV.ret ?_
    | refine CV.scope ?_
    | refine CV.draw callees (by decide +kernel) ?_
    | refine CH.cons rfl ?_
    | refine CH.nil ?_
    | refine CO.consG rfl ?_
    | refine CH.consG rfl ?_
    | refine CG.cons rfl ?_
    | refine CR.cons ?_
    | refine CR.nil ?_
    | refine CG.nil ?_
    | refine CG.consG rfl ?_
    | refine ⟨(rfl : plain _ = true), ?_⟩
    | refine ⟨(rfl : nilOk _ = some _), ?_⟩
    | refine ⟨_, ints_len (by assumption), ?_⟩
    | refine ⟨_, ints_addr (by assumption) (by omega) (by omega), ?_⟩
    | refine ⟨_, ints_load (by assumption) (by omega) (by omega), ?_⟩
    | refine ⟨(⟨by omega, by omega⟩ : inI64 _), ?_⟩
    | refine ⟨_, fun tm ha => step1_max rfl (ev_tmp ha rfl) (ev_tmp ha rfl), ?_⟩
    | refine ⟨_, fun tm ha => step1_min rfl (ev_tmp ha rfl) (ev_tmp ha rfl), ?_⟩
    | (refine ⟨fun _ => ?_, fun _ => ?_⟩ <;> first | (exfalso; omega) | skip)
    | fail
  all_goals first
    | (refine ⟨rfl, ?_, rfl⟩; simp; omega)
    | (refine ⟨rfl, ?_, rfl⟩; congr 1; simp; try omega)
/-- A number of an answer. -/
def okN (n : Int) : Bool := decide (-1 ≤ n) && decide (n < 9)
set_option maxRecDepth 100000 in
theorem number_spec {B : Nat} {H : Heap} {n : Int} (hB : B ≤ H.n) :
    CallB Try.prog B 132 [.int .i64 n] H (fun r H' => r = .bool (okN n) ∧ H' = H) := by
  refine CV.enter callees false rfl Try.func132 rfl (by kernel_rfl) (Nat.le_of_ble_eq_true rfl) hB ?_
  repeat' first
    | refine CO.cons rfl ?_
    | refine CO.nil ?_
    | refine CV.seq ?_
    | refine CV.region callees ?_
    | refine CV.cond ?_
    | refine CV.block ?_
    | refine CV.skip ?_
    | refine CV.exit ?_
    | refine CV.ret ?_
    | refine CV.scope ?_
    | refine CV.draw callees (by decide +kernel) ?_
    | refine CH.cons rfl ?_
    | refine CH.nil ?_
    | refine CO.consG rfl ?_
    | refine CH.consG rfl ?_
    | refine CG.cons rfl ?_
    | refine CR.cons ?_
    | refine CR.nil ?_
    | refine CG.nil ?_
    | refine CG.consG rfl ?_
    | refine ⟨(rfl : plain _ = true), ?_⟩
    | refine ⟨(rfl : nilOk _ = some _), ?_⟩
    | refine ⟨_, ints_len (by assumption), ?_⟩
    | refine ⟨_, ints_addr (by assumption) (by omega) (by omega), ?_⟩
    | refine ⟨_, ints_load (by assumption) (by omega) (by omega), ?_⟩
    | refine ⟨(⟨by omega, by omega⟩ : inI64 _), ?_⟩
    | refine ⟨_, fun tm ha => step1_max rfl (ev_tmp ha rfl) (ev_tmp ha rfl), ?_⟩
    | refine ⟨_, fun tm ha => step1_min rfl (ev_tmp ha rfl) (ev_tmp ha rfl), ?_⟩
    | (refine ⟨fun _ => ?_, fun _ => ?_⟩ <;> first | (exfalso; omega) | skip)
    | fail
  all_goals (refine ⟨rfl, ?_, rfl⟩; unfold okN; simp; try omega)
/-- The first error of an answer. -/
def ansE (ws : List Int) (n : Int) : Int := if (ws.length : Int) ≠ n then 3 else if ws.all okN then 0 else 2
set_option maxRecDepth 100000 in
theorem checkAnswer_spec {B : Nat} {H : Heap} {v : Value} {ws : List Int} {n : Int} (hB : B ≤ H.n) (hv : Ints H v ws) (hl : ws.length ≤ 1000000000) :
    CallB Try.prog B 110 [v, .int .i64 n] H (fun r H' => r = .int .i64 (ansE ws n) ∧ H' = H) := by
  refine CV.enter callees false rfl Try.func110 rfl (by kernel_rfl) (Nat.le_of_ble_eq_true rfl) hB ?_
  repeat' first
    | refine CO.cons rfl ?_
    | refine CO.nil ?_
    | refine CV.seq ?_
    | refine CV.region callees ?_
    | refine CV.cond ?_
    | refine CV.block ?_
    | refine CV.skip ?_
    | refine CV.exit ?_
    | refine CV.ret ?_
    | refine CV.scope ?_
    | refine CV.draw callees (by decide +kernel) ?_
    | refine CH.cons rfl ?_
    | refine CH.nil ?_
    | refine CO.consG rfl ?_
    | refine CH.consG rfl ?_
    | refine CG.cons rfl ?_
    | refine CR.cons ?_
    | refine CR.nil ?_
    | refine CG.nil ?_
    | refine CG.consG rfl ?_
    | refine ⟨(rfl : plain _ = true), ?_⟩
    | refine ⟨(rfl : nilOk _ = some _), ?_⟩
    | refine ⟨_, ints_len (by assumption), ?_⟩
    | refine ⟨_, ints_addr (by assumption) (by omega) (by omega), ?_⟩
    | refine ⟨_, ints_load (by assumption) (by omega) (by omega), ?_⟩
    | refine ⟨(⟨by omega, by omega⟩ : inI64 _), ?_⟩
    | refine ⟨_, fun tm ha => step1_max rfl (ev_tmp ha rfl) (ev_tmp ha rfl), ?_⟩
    | refine ⟨_, fun tm ha => step1_min rfl (ev_tmp ha rfl) (ev_tmp ha rfl), ?_⟩
    | (refine ⟨fun _ => ?_, fun _ => ?_⟩ <;> first | (exfalso; omega) | skip)
    | fail
  · exact ⟨rfl, by rw [ansE, if_pos (by assumption)], rfl⟩
  rename_i h0
  have e0 : ansE ws n = if ws.all okN then 0 else 2 := by rw [ansE, if_neg h0]
  refine CV.loopc ?_
  refine WCv.rounds callees false (α := Nat) (fun i => [(1, .int .i64 n), (11, v), (12, .int .i64 ws.length), (13, .int .i64 i)]) (fun i Hz => Hz = H ∧ i ≤ ws.length ∧ ∀ j, j < i → okN ws[j]! = true) (fun i => ws.length - i) (0) (by repeat' first | exact trivial | refine ⟨rfl, ?_⟩ | refine ⟨slot_int (by (try simp only [Int.toNat_natCast]); omega), ?_⟩) ?_ ?_
  · exact ⟨rfl, by omega, fun j hj => by omega⟩
  rintro i Hx ⟨rfl, hi, ha⟩ hBx
  by_cases hi2 : i < ws.length
  · have hxi : ws[(i : Int).toNat]! = ws[i]! := rfl
    repeat' first
      | refine CO.cons rfl ?_
      | refine CO.nil ?_
      | refine CV.seq ?_
      | refine CV.region callees ?_
      | refine CV.cond ?_
      | refine CV.block ?_
      | refine CV.skip ?_
      | refine CV.exit ?_
      | refine CV.ret ?_
      | refine CV.scope ?_
      | refine CV.draw callees (by decide +kernel) ?_
      | refine CH.cons rfl ?_
      | refine CH.nil ?_
      | refine CO.consG rfl ?_
      | refine CH.consG rfl ?_
      | refine CG.cons rfl ?_
      | refine CR.cons ?_
      | refine CR.nil ?_
      | refine CG.nil ?_
      | refine CG.consG rfl ?_
      | refine ⟨(rfl : plain _ = true), ?_⟩
      | refine ⟨(rfl : nilOk _ = some _), ?_⟩
      | refine ⟨_, ints_len (by assumption), ?_⟩
      | refine ⟨_, ints_addr (by assumption) (by omega) (by omega), ?_⟩
      | refine ⟨_, ints_load (by assumption) (by omega) (by omega), ?_⟩
      | refine ⟨(⟨by omega, by omega⟩ : inI64 _), ?_⟩
      | refine ⟨_, fun tm ha => step1_max rfl (ev_tmp ha rfl) (ev_tmp ha rfl), ?_⟩
      | refine ⟨_, fun tm ha => step1_min rfl (ev_tmp ha rfl) (ev_tmp ha rfl), ?_⟩
      | (refine ⟨fun _ => ?_, fun _ => ?_⟩ <;> first | (exfalso; omega) | skip)
      | fail
    rw [hxi]
    refine (number_spec hBx).mono ?_
    rintro r H1 ⟨rfl, rfl⟩
    cases hok : okN ws[i]! with
    | false =>
      repeat' first
        | refine CO.cons rfl ?_
        | refine CO.nil ?_
        | refine CV.seq ?_
        | refine CV.region callees ?_
        | refine CV.cond ?_
        | refine CV.block ?_
        | refine CV.skip ?_
        | refine CV.exit ?_
        | refine CV.ret ?_
        | refine CV.scope ?_
        | refine CV.draw callees (by decide +kernel) ?_
        | refine CH.cons rfl ?_
        | refine CH.nil ?_
        | refine CO.consG rfl ?_
        | refine CH.consG rfl ?_
        | refine CG.cons rfl ?_
        | refine CR.cons ?_
        | refine CR.nil ?_
        | refine CG.nil ?_
        | refine CG.consG rfl ?_
        | refine ⟨(rfl : plain _ = true), ?_⟩
        | refine ⟨(rfl : nilOk _ = some _), ?_⟩
        | refine ⟨_, ints_len (by assumption), ?_⟩
        | refine ⟨_, ints_addr (by assumption) (by omega) (by omega), ?_⟩
        | refine ⟨_, ints_load (by assumption) (by omega) (by omega), ?_⟩
        | refine ⟨(⟨by omega, by omega⟩ : inI64 _), ?_⟩
        | refine ⟨_, fun tm ha => step1_max rfl (ev_tmp ha rfl) (ev_tmp ha rfl), ?_⟩
        | refine ⟨_, fun tm ha => step1_min rfl (ev_tmp ha rfl) (ev_tmp ha rfl), ?_⟩
        | (refine ⟨fun _ => ?_, fun _ => ?_⟩ <;> first | (exfalso; omega) | skip)
        | fail
      refine ⟨rfl, ?_, rfl⟩
      have : ws.all okN = false := by
        rw [List.all_eq_false]
        exact ⟨ws[i]!, by rw [getElem!_pos ws i hi2]; exact List.getElem_mem _, by rw [hok]; simp⟩
      rw [e0, this]; rfl
    | true =>
      repeat' first
        | refine CO.cons rfl ?_
        | refine CO.nil ?_
        | refine CV.seq ?_
        | refine CV.region callees ?_
        | refine CV.cond ?_
        | refine CV.block ?_
        | refine CV.skip ?_
        | refine CV.exit ?_
        | refine CV.ret ?_
        | refine CV.scope ?_
        | refine CV.draw callees (by decide +kernel) ?_
        | refine CH.cons rfl ?_
        | refine CH.nil ?_
        | refine CO.consG rfl ?_
        | refine CH.consG rfl ?_
        | refine CG.cons rfl ?_
        | refine CR.cons ?_
        | refine CR.nil ?_
        | refine CG.nil ?_
        | refine CG.consG rfl ?_
        | refine ⟨(rfl : plain _ = true), ?_⟩
        | refine ⟨(rfl : nilOk _ = some _), ?_⟩
        | refine ⟨_, ints_len (by assumption), ?_⟩
        | refine ⟨_, ints_addr (by assumption) (by omega) (by omega), ?_⟩
        | refine ⟨_, ints_load (by assumption) (by omega) (by omega), ?_⟩
        | refine ⟨(⟨by omega, by omega⟩ : inI64 _), ?_⟩
        | refine ⟨_, fun tm ha => step1_max rfl (ev_tmp ha rfl) (ev_tmp ha rfl), ?_⟩
        | refine ⟨_, fun tm ha => step1_min rfl (ev_tmp ha rfl) (ev_tmp ha rfl), ?_⟩
        | (refine ⟨fun _ => ?_, fun _ => ?_⟩ <;> first | (exfalso; omega) | skip)
        | fail
      refine ⟨(i + 1), (by repeat' first | exact trivial | refine ⟨rfl, ?_⟩ | refine ⟨slot_int (by (try simp only [Int.toNat_natCast]); omega), ?_⟩), (by (try dsimp only); omega), ?_⟩
      refine ⟨rfl, by omega, fun j hj => ?_⟩
      by_cases h : j < i
      · exact ha j h
      · rw [show j = i by omega]; exact hok
  · have hil : i = ws.length := by omega
    have : ws.all okN = true := by
      rw [List.all_eq_true]
      intro x hx
      obtain ⟨j, hj, rfl⟩ := List.getElem_of_mem hx
      have := ha j (by omega)
      rwa [getElem!_pos ws j hj] at this
    repeat' first
      | refine CO.cons rfl ?_
      | refine CO.nil ?_
      | refine CV.seq ?_
      | refine CV.region callees ?_
      | refine CV.cond ?_
      | refine CV.block ?_
      | refine CV.skip ?_
      | refine CV.exit ?_
      | refine CV.ret ?_
      | refine CV.scope ?_
      | refine CV.draw callees (by decide +kernel) ?_
      | refine CH.cons rfl ?_
      | refine CH.nil ?_
      | refine CO.consG rfl ?_
      | refine CH.consG rfl ?_
      | refine CG.cons rfl ?_
      | refine CR.cons ?_
      | refine CR.nil ?_
      | refine CG.nil ?_
      | refine CG.consG rfl ?_
      | refine ⟨(rfl : plain _ = true), ?_⟩
      | refine ⟨(rfl : nilOk _ = some _), ?_⟩
      | refine ⟨_, ints_len (by assumption), ?_⟩
      | refine ⟨_, ints_addr (by assumption) (by omega) (by omega), ?_⟩
      | refine ⟨_, ints_load (by assumption) (by omega) (by omega), ?_⟩
      | refine ⟨(⟨by omega, by omega⟩ : inI64 _), ?_⟩
      | refine ⟨_, fun tm ha => step1_max rfl (ev_tmp ha rfl) (ev_tmp ha rfl), ?_⟩
      | refine ⟨_, fun tm ha => step1_min rfl (ev_tmp ha rfl) (ev_tmp ha rfl), ?_⟩
      | (refine ⟨fun _ => ?_, fun _ => ?_⟩ <;> first | (exfalso; omega) | skip)
      | fail
    exact ⟨rfl, by rw [e0, this]; rfl, rfl⟩
/-- A scoring: five points and keys. -/
abbrev Sv (a c w n l : Int) (k : Value) : Value := .agg #[.int .i64 a, .int .i64 c, .int .i64 w, .int .i64 n, .int .i64 l, k]
abbrev Sc (a c w n l : Int) (k : Value) : AObj := .cells [.int .i64 a, .int .i64 c, .int .i64 w, .int .i64 n, .int .i64 l, k] 79 1
theorem foS0 : fieldOff Try.prog 79 0 = some (0, 1) := by kernel_rfl
theorem foS1 : fieldOff Try.prog 79 1 = some (1, 1) := by kernel_rfl
theorem foS2 : fieldOff Try.prog 79 2 = some (2, 1) := by kernel_rfl
theorem foS3 : fieldOff Try.prog 79 3 = some (3, 1) := by kernel_rfl
theorem foS4 : fieldOff Try.prog 79 4 = some (4, 1) := by kernel_rfl
theorem foS5 : fieldOff Try.prog 79 5 = some (5, 1) := by kernel_rfl
theorem foS (i : Nat) (hi : i < 6) : fieldOff Try.prog 79 i = some (i, 1) := by
  match i, hi with
  | 0, _ => exact foS0
  | 1, _ => exact foS1
  | 2, _ => exact foS2
  | 3, _ => exact foS3
  | 4, _ => exact foS4
  | 5, _ => exact foS5
theorem addrS {b i : Nat} (hi : i < 6) : afieldAddr Try.prog 79 (.pointer (some ⟨b, 0, none⟩)) i = some (.pointer (some ⟨b, i, none⟩)) := by
  rw [field_addr (foS i hi) (by decide), Nat.zero_add]
theorem agS : isAggB Try.prog 79 = some true := by kernel_rfl
theorem szS : sizeB Try.prog 79 = some 6 := by kernel_rfl
theorem loadS {H : Heap} {b : Nat} {a c w n l : Int} {k : Value} (hg : H.get b = some (Sc a c w n l k)) : aload Try.prog 79 H (.pointer (some ⟨b, 0, none⟩)) = some (Sv a c w n l k) := by
  simp [aload, hg, agS, szS]
/-- Keys from a place on. -/
def ckK (ks : List Int) : Nat → Nat → Int
  | 0, _ => 0
  | m + 1, i => if ks[i]! < 1 ∨ 6 < ks[i]! then 4 else if ks[i]! ∈ ks.take i then 9 else ckK ks m (i + 1)
instance (a c w n l : Int) : Decidable (ptsOk a c w n l) := by unfold ptsOk; infer_instance
/-- The first error of a scoring. -/
def scE (a c w n l : Int) (ks : List Int) : Int := if ¬ ptsOk a c w n l then 2 else if 6 < ks.length then 8 else ckK ks ks.length 0
end Go.Proofs.Ytlpkbcgdcimglaa.Sc

namespace Go.Proofs.Ytlpkbcgdcimglaa.Sc
open Go.AI
abbrev P5 (a c w n l : Int) : Value := .agg #[.int .i64 a, .int .i64 c, .int .i64 w, .int .i64 n, .int .i64 l]
theorem build5 {a c w n l : Int} : abuild Try.prog 157 [(0, .int .i64 a), (1, .int .i64 c), (2, .int .i64 w), (3, .int .i64 n), (4, .int .i64 l)] = some (P5 a c w n l) := by kernel_rfl
def p5 (a c w n l : Int) (i : Nat) : Int := match i with
  | 0 => a
  | 1 => c
  | 2 => w
  | 3 => n
  | _ => l
theorem index50 {a c w n l : Int} : aindex Try.prog 157 (P5 a c w n l) (.int .i64 0) = some (.int .i64 a) := by kernel_rfl
theorem index51 {a c w n l : Int} : aindex Try.prog 157 (P5 a c w n l) (.int .i64 1) = some (.int .i64 c) := by kernel_rfl
theorem index52 {a c w n l : Int} : aindex Try.prog 157 (P5 a c w n l) (.int .i64 2) = some (.int .i64 w) := by kernel_rfl
theorem index53 {a c w n l : Int} : aindex Try.prog 157 (P5 a c w n l) (.int .i64 3) = some (.int .i64 n) := by kernel_rfl
theorem index54 {a c w n l : Int} : aindex Try.prog 157 (P5 a c w n l) (.int .i64 4) = some (.int .i64 l) := by kernel_rfl
theorem index5 {a c w n l : Int} {i : Nat} (h : i < 5) : aindex Try.prog 157 (P5 a c w n l) (.int .i64 (i : Int)) = some (.int .i64 (p5 a c w n l i)) := by
  match i, h with
  | 0, _ => exact index50
  | 1, _ => exact index51
  | 2, _ => exact index52
  | 3, _ => exact index53
  | 4, _ => exact index54
theorem alloc_sc {H : Heap} {a c w n l : Int} {k : Value} (hk : k.cells.toList = [k]) : anew H (Value.cells (Sv a c w n l k)).toList 79 1 = H.new (Sc a c w n l k) := by
  have : (Value.cells (Sv a c w n l k)).toList = [.int .i64 a, .int .i64 c, .int .i64 w, .int .i64 n, .int .i64 l] ++ k.cells.toList := by
    rw [hk]; rfl
  rw [this, hk]; rfl
set_option maxHeartbeats 1000000 in
set_option maxRecDepth 100000 in
theorem scCheck_spec {B : Nat} {H : Heap} {a c w n l : Int} {k : Value} {ks : List Int} (hB : B ≤ H.n) (hk : Ints H k ks) (hn : ks.length < 1000000) :
    CallB Try.prog B 131 [Sv a c w n l k] H (fun r H' => r = .int .i64 (scE a c w n l ks) ∧ Keep H H') := by
  refine CV.enter callees false rfl Try.func131 rfl (by kernel_rfl) (Nat.le_of_ble_eq_true rfl) hB ?_
  repeat' first
    | refine CO.cons rfl ?_
    | refine CO.nil ?_
    | refine CV.seq ?_
    | refine CV.region callees ?_
    | refine CV.cond ?_
    | refine CV.block ?_
    | refine CV.skip ?_
    | refine CV.exit ?_
    | refine CV.ret ?_
    | refine CV.scope ?_
    | refine CV.draw callees (by decide +kernel) ?_
    | refine CH.cons rfl ?_
    | refine CH.nil ?_
    | refine CO.consG rfl ?_
    | refine CH.consG rfl ?_
    | refine CG.cons rfl ?_
    | refine CR.cons ?_
    | refine CR.nil ?_
    | refine CG.nil ?_
    | refine CG.consG rfl ?_
    | refine ⟨(rfl : plain _ = true), ?_⟩
    | refine ⟨(rfl : nilOk _ = some _), ?_⟩
    | refine ⟨_, ints_len (by assumption), ?_⟩
    | refine ⟨_, ints_addr (by assumption) (by omega) (by omega), ?_⟩
    | refine ⟨_, ints_load (by assumption) (by omega) (by omega), ?_⟩
    | refine ⟨(⟨by omega, by omega⟩ : inI64 _), ?_⟩
    | refine ⟨_, fun tm ha => step1_max rfl (ev_tmp ha rfl) (ev_tmp ha rfl), ?_⟩
    | refine ⟨_, fun tm ha => step1_min rfl (ev_tmp ha rfl) (ev_tmp ha rfl), ?_⟩
    | (refine ⟨(rfl : notTuple _ = true), ?_⟩)
    | (refine ⟨fun _ => ?_, fun _ => ?_⟩ <;> first | (exfalso; omega) | skip)
    | fail
  rw [alloc_sc hk.oneC.2.2]
  generalize hs : H.new (Sc a c w n l k) = Hs
  have hg := new_get hs
  have kk := new_keep hs
  have hks : Ints Hs k ks := Row.keep hk kk
  have hBs := Nat.le_trans hB kk.1
  repeat' first
    | refine CO.cons rfl ?_
    | refine CO.nil ?_
    | refine CV.seq ?_
    | refine CV.region callees ?_
    | refine CV.cond ?_
    | refine CV.block ?_
    | refine CV.skip ?_
    | refine CV.exit ?_
    | refine CV.ret ?_
    | refine CV.scope ?_
    | refine CV.draw callees (by decide +kernel) ?_
    | refine CH.cons rfl ?_
    | refine CH.nil ?_
    | refine CO.consG rfl ?_
    | refine CH.consG rfl ?_
    | refine CG.cons rfl ?_
    | refine CR.cons ?_
    | refine CR.nil ?_
    | refine CG.nil ?_
    | refine CG.consG rfl ?_
    | refine ⟨(rfl : plain _ = true), ?_⟩
    | refine ⟨(rfl : nilOk _ = some _), ?_⟩
    | refine ⟨_, ints_len (by assumption), ?_⟩
    | refine ⟨_, ints_addr (by assumption) (by omega) (by omega), ?_⟩
    | refine ⟨_, ints_load (by assumption) (by omega) (by omega), ?_⟩
    | refine ⟨(⟨by omega, by omega⟩ : inI64 _), ?_⟩
    | refine ⟨_, fun tm ha => step1_max rfl (ev_tmp ha rfl) (ev_tmp ha rfl), ?_⟩
    | refine ⟨_, fun tm ha => step1_min rfl (ev_tmp ha rfl) (ev_tmp ha rfl), ?_⟩
    | (refine ⟨_, addrS (by decide), ?_⟩)
    | (refine ⟨_, cell_load ag3 hg rfl, ?_⟩)
    | (refine ⟨_, build5, ?_⟩)
    | (refine ⟨fun _ => ?_, fun _ => ?_⟩ <;> first | (exfalso; omega) | skip)
    | fail
  refine CV.loopc ?_
  refine WCv.rounds callees false (α := Nat) (fun i => [(1, .pointer (some ⟨H.n, 0, none⟩)), (17, P5 a c w n l), (18, .int .i64 i)]) (fun i Hz => Hz = Hs ∧ i ≤ 5 ∧ ∀ j, j < i → 0 ≤ p5 a c w n l j ∧ p5 a c w n l j ≤ 1000) (fun i => 5 - i) (0) (by repeat' first | exact trivial | refine ⟨rfl, ?_⟩ | refine ⟨slot_int (by (try simp only [Int.toNat_natCast]); omega), ?_⟩) ?_ ?_
  · exact ⟨rfl, by omega, fun j hj => by omega⟩
  rintro i Hx ⟨rfl, hi, hp⟩ hBx
  have all : (∀ j, j < 5 → 0 ≤ p5 a c w n l j ∧ p5 a c w n l j ≤ 1000) ↔ ptsOk a c w n l := by
    constructor
    · intro h; exact ⟨h 0 (by omega), h 1 (by omega), h 2 (by omega), h 3 (by omega), h 4 (by omega)⟩
    · rintro ⟨h0, h1, h2, h3, h4⟩ j hj
      match j, hj with
      | 0, _ => exact h0
      | 1, _ => exact h1
      | 2, _ => exact h2
      | 3, _ => exact h3
      | 4, _ => exact h4
  by_cases hi5 : i < 5
  · by_cases hok : 0 ≤ p5 a c w n l i ∧ p5 a c w n l i ≤ 1000
    · repeat' first
        | refine CO.cons rfl ?_
        | refine CO.nil ?_
        | refine CV.seq ?_
        | refine CV.region callees ?_
        | refine CV.cond ?_
        | refine CV.block ?_
        | refine CV.skip ?_
        | refine CV.exit ?_
        | refine CV.ret ?_
        | refine CV.scope ?_
        | refine CV.draw callees (by decide +kernel) ?_
        | refine CH.cons rfl ?_
        | refine CH.nil ?_
        | refine CO.consG rfl ?_
        | refine CH.consG rfl ?_
        | refine CG.cons rfl ?_
        | refine CR.cons ?_
        | refine CR.nil ?_
        | refine CG.nil ?_
        | refine CG.consG rfl ?_
        | refine ⟨(rfl : plain _ = true), ?_⟩
        | refine ⟨(rfl : nilOk _ = some _), ?_⟩
        | refine ⟨_, ints_len (by assumption), ?_⟩
        | refine ⟨_, ints_addr (by assumption) (by omega) (by omega), ?_⟩
        | refine ⟨_, ints_load (by assumption) (by omega) (by omega), ?_⟩
        | refine ⟨(⟨by omega, by omega⟩ : inI64 _), ?_⟩
        | refine ⟨_, fun tm ha => step1_max rfl (ev_tmp ha rfl) (ev_tmp ha rfl), ?_⟩
        | refine ⟨_, fun tm ha => step1_min rfl (ev_tmp ha rfl) (ev_tmp ha rfl), ?_⟩
        | (refine ⟨_, index5 hi5, ?_⟩)
        | (refine ⟨fun _ => ?_, fun _ => ?_⟩ <;> first | (exfalso; omega) | skip)
        | fail
      refine ⟨(i + 1), (by repeat' first | exact trivial | refine ⟨rfl, ?_⟩ | refine ⟨slot_int (by (try simp only [Int.toNat_natCast]); omega), ?_⟩), (by (try dsimp only); omega), ?_⟩
      refine ⟨rfl, by omega, fun j hj => ?_⟩
      by_cases h : j < i
      · exact hp j h
      · rw [show j = i by omega]; exact hok
    · have e : scE a c w n l ks = 2 := by rw [scE, if_pos (fun h => hok (all.2 h i hi5))]
      repeat' first
        | refine CO.cons rfl ?_
        | refine CO.nil ?_
        | refine CV.seq ?_
        | refine CV.region callees ?_
        | refine CV.cond ?_
        | refine CV.block ?_
        | refine CV.skip ?_
        | refine CV.exit ?_
        | refine CV.ret ?_
        | refine CV.scope ?_
        | refine CV.draw callees (by decide +kernel) ?_
        | refine CH.cons rfl ?_
        | refine CH.nil ?_
        | refine CO.consG rfl ?_
        | refine CH.consG rfl ?_
        | refine CG.cons rfl ?_
        | refine CR.cons ?_
        | refine CR.nil ?_
        | refine CG.nil ?_
        | refine CG.consG rfl ?_
        | refine ⟨(rfl : plain _ = true), ?_⟩
        | refine ⟨(rfl : nilOk _ = some _), ?_⟩
        | refine ⟨_, ints_len (by assumption), ?_⟩
        | refine ⟨_, ints_addr (by assumption) (by omega) (by omega), ?_⟩
        | refine ⟨_, ints_load (by assumption) (by omega) (by omega), ?_⟩
        | refine ⟨(⟨by omega, by omega⟩ : inI64 _), ?_⟩
        | refine ⟨_, fun tm ha => step1_max rfl (ev_tmp ha rfl) (ev_tmp ha rfl), ?_⟩
        | refine ⟨_, fun tm ha => step1_min rfl (ev_tmp ha rfl) (ev_tmp ha rfl), ?_⟩
        | (refine ⟨_, index5 hi5, ?_⟩)
        | (refine ⟨fun _ => ?_, fun _ => ?_⟩ <;> first | (exfalso; omega) | skip)
        | fail
      all_goals exact ⟨rfl, by rw [e], kk⟩
  have hpts : ptsOk a c w n l := all.1 (fun j hj => hp j (by omega))
  have e0 : scE a c w n l ks = if 6 < ks.length then 8 else ckK ks ks.length 0 := by rw [scE, if_neg (fun h => h hpts)]
  repeat' first
    | refine CO.cons rfl ?_
    | refine CO.nil ?_
    | refine CV.seq ?_
    | refine CV.region callees ?_
    | refine CV.cond ?_
    | refine CV.block ?_
    | refine CV.skip ?_
    | refine CV.exit ?_
    | refine CV.ret ?_
    | refine CV.scope ?_
    | refine CV.draw callees (by decide +kernel) ?_
    | refine CH.cons rfl ?_
    | refine CH.nil ?_
    | refine CO.consG rfl ?_
    | refine CH.consG rfl ?_
    | refine CG.cons rfl ?_
    | refine CR.cons ?_
    | refine CR.nil ?_
    | refine CG.nil ?_
    | refine CG.consG rfl ?_
    | refine ⟨(rfl : plain _ = true), ?_⟩
    | refine ⟨(rfl : nilOk _ = some _), ?_⟩
    | refine ⟨_, ints_len (by assumption), ?_⟩
    | refine ⟨_, ints_addr (by assumption) (by omega) (by omega), ?_⟩
    | refine ⟨_, ints_load (by assumption) (by omega) (by omega), ?_⟩
    | refine ⟨(⟨by omega, by omega⟩ : inI64 _), ?_⟩
    | refine ⟨_, fun tm ha => step1_max rfl (ev_tmp ha rfl) (ev_tmp ha rfl), ?_⟩
    | refine ⟨_, fun tm ha => step1_min rfl (ev_tmp ha rfl) (ev_tmp ha rfl), ?_⟩
    | (refine ⟨_, addrS (by decide), ?_⟩)
    | (refine ⟨_, cell_load ag22 hg rfl, ?_⟩)
    | (refine ⟨fun _ => ?_, fun _ => ?_⟩ <;> first | (exfalso; omega) | skip)
    | fail
  · exact ⟨rfl, by rw [e0, if_pos (by omega)], kk⟩
  rw [if_neg (by omega)] at e0
  repeat' first
    | refine CO.cons rfl ?_
    | refine CO.nil ?_
    | refine CV.seq ?_
    | refine CV.region callees ?_
    | refine CV.cond ?_
    | refine CV.block ?_
    | refine CV.skip ?_
    | refine CV.exit ?_
    | refine CV.ret ?_
    | refine CV.scope ?_
    | refine CV.draw callees (by decide +kernel) ?_
    | refine CH.cons rfl ?_
    | refine CH.nil ?_
    | refine CO.consG rfl ?_
    | refine CH.consG rfl ?_
    | refine CG.cons rfl ?_
    | refine CR.cons ?_
    | refine CR.nil ?_
    | refine CG.nil ?_
    | refine CG.consG rfl ?_
    | refine ⟨(rfl : plain _ = true), ?_⟩
    | refine ⟨(rfl : nilOk _ = some _), ?_⟩
    | refine ⟨_, ints_len (by assumption), ?_⟩
    | refine ⟨_, ints_addr (by assumption) (by omega) (by omega), ?_⟩
    | refine ⟨_, ints_load (by assumption) (by omega) (by omega), ?_⟩
    | refine ⟨(⟨by omega, by omega⟩ : inI64 _), ?_⟩
    | refine ⟨_, fun tm ha => step1_max rfl (ev_tmp ha rfl) (ev_tmp ha rfl), ?_⟩
    | refine ⟨_, fun tm ha => step1_min rfl (ev_tmp ha rfl) (ev_tmp ha rfl), ?_⟩
    | (refine ⟨_, addrS (by decide), ?_⟩)
    | (refine ⟨_, cell_load ag22 hg rfl, ?_⟩)
    | (refine ⟨fun _ => ?_, fun _ => ?_⟩ <;> first | (exfalso; omega) | skip)
    | fail
  refine CV.loopc ?_
  refine WCv.rounds callees false (α := Nat) (fun i => [(1, .pointer (some ⟨H.n, 0, none⟩)), (33, k), (34, .int .i64 ks.length), (35, .int .i64 i)]) (fun i Hz => Hz = Hx ∧ i ≤ ks.length ∧ scE a c w n l ks = ckK ks (ks.length - i) i) (fun i => ks.length - i) (0) (by repeat' first | exact trivial | refine ⟨rfl, ?_⟩ | refine ⟨slot_int (by (try simp only [Int.toNat_natCast]); omega), ?_⟩) ?_ ?_
  · exact ⟨rfl, by omega, e0⟩
  rintro i Hy ⟨rfl, hi, hc⟩ hBy
  by_cases hi2 : i < ks.length
  · obtain ⟨m, hm⟩ : ∃ m, ks.length - i = m + 1 := ⟨ks.length - i - 1, by omega⟩
    have hxi : ks[(i : Int).toNat]! = ks[i]! := rfl
    rw [hm, ckK] at hc
    by_cases hr : ks[i]! < 1 ∨ 6 < ks[i]!
    · rw [if_pos hr] at hc
      repeat' first
        | refine CO.cons rfl ?_
        | refine CO.nil ?_
        | refine CV.seq ?_
        | refine CV.region callees ?_
        | refine CV.cond ?_
        | refine CV.block ?_
        | refine CV.skip ?_
        | refine CV.exit ?_
        | refine CV.ret ?_
        | refine CV.scope ?_
        | refine CV.draw callees (by decide +kernel) ?_
        | refine CH.cons rfl ?_
        | refine CH.nil ?_
        | refine CO.consG rfl ?_
        | refine CH.consG rfl ?_
        | refine CG.cons rfl ?_
        | refine CR.cons ?_
        | refine CR.nil ?_
        | refine CG.nil ?_
        | refine CG.consG rfl ?_
        | refine ⟨(rfl : plain _ = true), ?_⟩
        | refine ⟨(rfl : nilOk _ = some _), ?_⟩
        | refine ⟨_, ints_len (by assumption), ?_⟩
        | refine ⟨_, ints_addr (by assumption) (by omega) (by omega), ?_⟩
        | refine ⟨_, ints_load (by assumption) (by omega) (by omega), ?_⟩
        | refine ⟨(⟨by omega, by omega⟩ : inI64 _), ?_⟩
        | refine ⟨_, fun tm ha => step1_max rfl (ev_tmp ha rfl) (ev_tmp ha rfl), ?_⟩
        | refine ⟨_, fun tm ha => step1_min rfl (ev_tmp ha rfl) (ev_tmp ha rfl), ?_⟩
        | (refine ⟨fun _ => ?_, fun _ => ?_⟩ <;> first | (exfalso; omega) | skip)
        | fail
      all_goals exact ⟨rfl, by rw [hc], kk⟩
    · rw [if_neg hr] at hc
      repeat' first
        | refine CO.cons rfl ?_
        | refine CO.nil ?_
        | refine CV.seq ?_
        | refine CV.region callees ?_
        | refine CV.cond ?_
        | refine CV.block ?_
        | refine CV.skip ?_
        | refine CV.exit ?_
        | refine CV.ret ?_
        | refine CV.scope ?_
        | refine CV.draw callees (by decide +kernel) ?_
        | refine CH.cons rfl ?_
        | refine CH.nil ?_
        | refine CO.consG rfl ?_
        | refine CH.consG rfl ?_
        | refine CG.cons rfl ?_
        | refine CR.cons ?_
        | refine CR.nil ?_
        | refine CG.nil ?_
        | refine CG.consG rfl ?_
        | refine ⟨(rfl : plain _ = true), ?_⟩
        | refine ⟨(rfl : nilOk _ = some _), ?_⟩
        | refine ⟨_, ints_len (by assumption), ?_⟩
        | refine ⟨_, ints_addr (by assumption) (by omega) (by omega), ?_⟩
        | refine ⟨_, ints_load (by assumption) (by omega) (by omega), ?_⟩
        | refine ⟨(⟨by omega, by omega⟩ : inI64 _), ?_⟩
        | refine ⟨_, fun tm ha => step1_max rfl (ev_tmp ha rfl) (ev_tmp ha rfl), ?_⟩
        | refine ⟨_, fun tm ha => step1_min rfl (ev_tmp ha rfl) (ev_tmp ha rfl), ?_⟩
        | (refine ⟨_, addrS (by decide), ?_⟩)
        | (refine ⟨_, cell_load ag22 hg rfl, ?_⟩)
        | (refine ints_slice hks (by omega) (by omega) ?_)
        | (refine ⟨fun _ => ?_, fun _ => ?_⟩ <;> first | (exfalso; omega) | skip)
        | fail
      intro u hu
      repeat' first
        | refine CO.cons rfl ?_
        | refine CO.nil ?_
        | refine CV.seq ?_
        | refine CV.region callees ?_
        | refine CV.cond ?_
        | refine CV.block ?_
        | refine CV.skip ?_
        | refine CV.exit ?_
        | refine CV.ret ?_
        | refine CV.scope ?_
        | refine CV.draw callees (by decide +kernel) ?_
        | refine CH.cons rfl ?_
        | refine CH.nil ?_
        | refine CO.consG rfl ?_
        | refine CH.consG rfl ?_
        | refine CG.cons rfl ?_
        | refine CR.cons ?_
        | refine CR.nil ?_
        | refine CG.nil ?_
        | refine CG.consG rfl ?_
        | refine ⟨(rfl : plain _ = true), ?_⟩
        | refine ⟨(rfl : nilOk _ = some _), ?_⟩
        | refine ⟨_, ints_len (by assumption), ?_⟩
        | refine ⟨_, ints_addr (by assumption) (by omega) (by omega), ?_⟩
        | refine ⟨_, ints_load (by assumption) (by omega) (by omega), ?_⟩
        | refine ⟨(⟨by omega, by omega⟩ : inI64 _), ?_⟩
        | refine ⟨_, fun tm ha => step1_max rfl (ev_tmp ha rfl) (ev_tmp ha rfl), ?_⟩
        | refine ⟨_, fun tm ha => step1_min rfl (ev_tmp ha rfl) (ev_tmp ha rfl), ?_⟩
        | (refine ⟨fun _ => ?_, fun _ => ?_⟩ <;> first | (exfalso; omega) | skip)
        | fail
      refine (contains_spec hBy hu (by simp; omega)).mono ?_
      rintro r H3 ⟨rfl, rfl⟩
      rw [show ((i : Int).toNat) = i from rfl]
      by_cases hmem : ks[i]! ∈ ks.take i
      · rw [if_pos hmem] at hc
        rw [decide_eq_true hmem]
        repeat' first
          | refine CO.cons rfl ?_
          | refine CO.nil ?_
          | refine CV.seq ?_
          | refine CV.region callees ?_
          | refine CV.cond ?_
          | refine CV.block ?_
          | refine CV.skip ?_
          | refine CV.exit ?_
          | refine CV.ret ?_
          | refine CV.scope ?_
          | refine CV.draw callees (by decide +kernel) ?_
          | refine CH.cons rfl ?_
          | refine CH.nil ?_
          | refine CO.consG rfl ?_
          | refine CH.consG rfl ?_
          | refine CG.cons rfl ?_
          | refine CR.cons ?_
          | refine CR.nil ?_
          | refine CG.nil ?_
          | refine CG.consG rfl ?_
          | refine ⟨(rfl : plain _ = true), ?_⟩
          | refine ⟨(rfl : nilOk _ = some _), ?_⟩
          | refine ⟨_, ints_len (by assumption), ?_⟩
          | refine ⟨_, ints_addr (by assumption) (by omega) (by omega), ?_⟩
          | refine ⟨_, ints_load (by assumption) (by omega) (by omega), ?_⟩
          | refine ⟨(⟨by omega, by omega⟩ : inI64 _), ?_⟩
          | refine ⟨_, fun tm ha => step1_max rfl (ev_tmp ha rfl) (ev_tmp ha rfl), ?_⟩
          | refine ⟨_, fun tm ha => step1_min rfl (ev_tmp ha rfl) (ev_tmp ha rfl), ?_⟩
          | (refine ⟨fun _ => ?_, fun _ => ?_⟩ <;> first | (exfalso; omega) | skip)
          | fail
        exact ⟨rfl, by rw [hc], kk⟩
      · rw [if_neg hmem] at hc
        rw [decide_eq_false hmem]
        repeat' first
          | refine CO.cons rfl ?_
          | refine CO.nil ?_
          | refine CV.seq ?_
          | refine CV.region callees ?_
          | refine CV.cond ?_
          | refine CV.block ?_
          | refine CV.skip ?_
          | refine CV.exit ?_
          | refine CV.ret ?_
          | refine CV.scope ?_
          | refine CV.draw callees (by decide +kernel) ?_
          | refine CH.cons rfl ?_
          | refine CH.nil ?_
          | refine CO.consG rfl ?_
          | refine CH.consG rfl ?_
          | refine CG.cons rfl ?_
          | refine CR.cons ?_
          | refine CR.nil ?_
          | refine CG.nil ?_
          | refine CG.consG rfl ?_
          | refine ⟨(rfl : plain _ = true), ?_⟩
          | refine ⟨(rfl : nilOk _ = some _), ?_⟩
          | refine ⟨_, ints_len (by assumption), ?_⟩
          | refine ⟨_, ints_addr (by assumption) (by omega) (by omega), ?_⟩
          | refine ⟨_, ints_load (by assumption) (by omega) (by omega), ?_⟩
          | refine ⟨(⟨by omega, by omega⟩ : inI64 _), ?_⟩
          | refine ⟨_, fun tm ha => step1_max rfl (ev_tmp ha rfl) (ev_tmp ha rfl), ?_⟩
          | refine ⟨_, fun tm ha => step1_min rfl (ev_tmp ha rfl) (ev_tmp ha rfl), ?_⟩
          | (refine ⟨fun _ => ?_, fun _ => ?_⟩ <;> first | (exfalso; omega) | skip)
          | fail
        refine ⟨(i + 1), (by repeat' first | exact trivial | refine ⟨rfl, ?_⟩ | refine ⟨slot_int (by (try simp only [Int.toNat_natCast]); omega), ?_⟩), (by (try dsimp only); omega), ?_⟩
        exact ⟨rfl, by omega, by rw [hc]; congr 1; omega⟩
  · have : i = ks.length := by omega
    subst this
    rw [Nat.sub_self, ckK] at hc
    repeat' first
      | refine CO.cons rfl ?_
      | refine CO.nil ?_
      | refine CV.seq ?_
      | refine CV.region callees ?_
      | refine CV.cond ?_
      | refine CV.block ?_
      | refine CV.skip ?_
      | refine CV.exit ?_
      | refine CV.ret ?_
      | refine CV.scope ?_
      | refine CV.draw callees (by decide +kernel) ?_
      | refine CH.cons rfl ?_
      | refine CH.nil ?_
      | refine CO.consG rfl ?_
      | refine CH.consG rfl ?_
      | refine CG.cons rfl ?_
      | refine CR.cons ?_
      | refine CR.nil ?_
      | refine CG.nil ?_
      | refine CG.consG rfl ?_
      | refine ⟨(rfl : plain _ = true), ?_⟩
      | refine ⟨(rfl : nilOk _ = some _), ?_⟩
      | refine ⟨_, ints_len (by assumption), ?_⟩
      | refine ⟨_, ints_addr (by assumption) (by omega) (by omega), ?_⟩
      | refine ⟨_, ints_load (by assumption) (by omega) (by omega), ?_⟩
      | refine ⟨(⟨by omega, by omega⟩ : inI64 _), ?_⟩
      | refine ⟨_, fun tm ha => step1_max rfl (ev_tmp ha rfl) (ev_tmp ha rfl), ?_⟩
      | refine ⟨_, fun tm ha => step1_min rfl (ev_tmp ha rfl) (ev_tmp ha rfl), ?_⟩
      | (refine ⟨fun _ => ?_, fun _ => ?_⟩ <;> first | (exfalso; omega) | skip)
      | fail
    exact ⟨rfl, by rw [hc], kk⟩
end Go.Proofs.Ytlpkbcgdcimglaa.Sc

namespace Go.AI
end Go.AI
namespace Go.Proofs.Ytlpkbcgdcimglaa.Sc
open Go.AI
set_option maxRecDepth 100000 in
theorem alone_spec {B : Nat} {H : Heap} {v : Value} {xs : List Int} {i : Nat} (hB : B ≤ H.n) (hv : Ints H v xs) (hn : xs.length < 1000000) (hi : i < xs.length) :
    CallB Try.prog B 145 [v, .int .i64 (i : Int)] H (fun r H' => r = .bool (alo xs i) ∧ H' = H) := by
  refine CV.enter callees false rfl Try.func145 rfl (by kernel_rfl) (Nat.le_of_ble_eq_true rfl) hB ?_
  repeat' first
    | refine CO.cons rfl ?_
    | refine CO.nil ?_
    | refine CV.seq ?_
    | refine CV.region callees ?_
    | refine CV.cond ?_
    | refine CV.block ?_
    | refine CV.skip ?_
    | refine CV.exit ?_
    | refine CV.ret ?_
    | refine CV.scope ?_
    | refine CV.draw callees (by decide +kernel) ?_
    | refine CH.cons rfl ?_
    | refine CH.nil ?_
    | refine CO.consG rfl ?_
    | refine CH.consG rfl ?_
    | refine CG.cons rfl ?_
    | refine CR.cons ?_
    | refine CR.nil ?_
    | refine CG.nil ?_
    | refine CG.consG rfl ?_
    | refine ⟨(rfl : plain _ = true), ?_⟩
    | refine ⟨(rfl : nilOk _ = some _), ?_⟩
    | refine ⟨_, ints_len (by assumption), ?_⟩
    | refine ⟨_, ints_addr (by assumption) (by omega) (by omega), ?_⟩
    | refine ⟨_, ints_load (by assumption) (by omega) (by omega), ?_⟩
    | refine ⟨(⟨by omega, by omega⟩ : inI64 _), ?_⟩
    | refine ⟨_, fun tm ha => step1_max rfl (ev_tmp ha rfl) (ev_tmp ha rfl), ?_⟩
    | refine ⟨_, fun tm ha => step1_min rfl (ev_tmp ha rfl) (ev_tmp ha rfl), ?_⟩
    | refine CV.wide callees rfl [0, 1, 2, 3, 4, 5, 6, 7, 8, 9, 10, 11, 12, 13, 14, 15, 16, 17, 18, 19, 20, 21] (by kernel_rfl) ?_
    | refine slice_ask hv (by omega) (by omega) ?_
    | (refine ⟨fun _ => ?_, fun _ => ?_⟩ <;> first | (exfalso; omega) | skip)
    | fail
  intro t ht
  repeat' first
    | refine CO.cons rfl ?_
    | refine CO.nil ?_
    | refine CV.seq ?_
    | refine CV.region callees ?_
    | refine CV.cond ?_
    | refine CV.block ?_
    | refine CV.skip ?_
    | refine CV.exit ?_
    | refine CV.ret ?_
    | refine CV.scope ?_
    | refine CV.draw callees (by decide +kernel) ?_
    | refine CH.cons rfl ?_
    | refine CH.nil ?_
    | refine CO.consG rfl ?_
    | refine CH.consG rfl ?_
    | refine CG.cons rfl ?_
    | refine CR.cons ?_
    | refine CR.nil ?_
    | refine CG.nil ?_
    | refine CG.consG rfl ?_
    | refine ⟨(rfl : plain _ = true), ?_⟩
    | refine ⟨(rfl : nilOk _ = some _), ?_⟩
    | refine ⟨_, ints_len (by assumption), ?_⟩
    | refine ⟨_, ints_addr (by assumption) (by omega) (by omega), ?_⟩
    | refine ⟨_, ints_load (by assumption) (by omega) (by omega), ?_⟩
    | refine ⟨(⟨by omega, by omega⟩ : inI64 _), ?_⟩
    | refine ⟨_, fun tm ha => step1_max rfl (ev_tmp ha rfl) (ev_tmp ha rfl), ?_⟩
    | refine ⟨_, fun tm ha => step1_min rfl (ev_tmp ha rfl) (ev_tmp ha rfl), ?_⟩
    | (refine ⟨fun _ => ?_, fun _ => ?_⟩ <;> first | (exfalso; omega) | skip)
    | fail
  refine (contains_spec (Nat.le_refl _) ht (by rw [List.length_take]; omega)).mono ?_
  rintro r H1 ⟨rfl, rfl⟩
  rw [show ((i : Int).toNat) = i from rfl]
  unfold alo
  by_cases hm : xs[i]! ∈ xs.take i
  · rw [decide_eq_true hm]
    repeat' first
      | refine CO.cons rfl ?_
      | refine CO.nil ?_
      | refine CV.seq ?_
      | refine CV.region callees ?_
      | refine CV.cond ?_
      | refine CV.block ?_
      | refine CV.skip ?_
      | refine CV.exit ?_
      | refine CV.ret ?_
      | refine CV.scope ?_
      | refine CV.draw callees (by decide +kernel) ?_
      | refine CH.cons rfl ?_
      | refine CH.nil ?_
      | refine CO.consG rfl ?_
      | refine CH.consG rfl ?_
      | refine CG.cons rfl ?_
      | refine CR.cons ?_
      | refine CR.nil ?_
      | refine CG.nil ?_
      | refine CG.consG rfl ?_
      | refine ⟨(rfl : plain _ = true), ?_⟩
      | refine ⟨(rfl : nilOk _ = some _), ?_⟩
      | refine ⟨_, ints_len (by assumption), ?_⟩
      | refine ⟨_, ints_addr (by assumption) (by omega) (by omega), ?_⟩
      | refine ⟨_, ints_load (by assumption) (by omega) (by omega), ?_⟩
      | refine ⟨(⟨by omega, by omega⟩ : inI64 _), ?_⟩
      | refine ⟨_, fun tm ha => step1_max rfl (ev_tmp ha rfl) (ev_tmp ha rfl), ?_⟩
      | refine ⟨_, fun tm ha => step1_min rfl (ev_tmp ha rfl) (ev_tmp ha rfl), ?_⟩
      | (refine ⟨fun _ => ?_, fun _ => ?_⟩ <;> first | (exfalso; omega) | skip)
      | fail
    exact ⟨rfl, rfl, rfl⟩
  · rw [decide_eq_false hm]
    repeat' first
      | refine CO.cons rfl ?_
      | refine CO.nil ?_
      | refine CV.seq ?_
      | refine CV.region callees ?_
      | refine CV.cond ?_
      | refine CV.block ?_
      | refine CV.skip ?_
      | refine CV.exit ?_
      | refine CV.ret ?_
      | refine CV.scope ?_
      | refine CV.draw callees (by decide +kernel) ?_
      | refine CH.cons rfl ?_
      | refine CH.nil ?_
      | refine CO.consG rfl ?_
      | refine CH.consG rfl ?_
      | refine CG.cons rfl ?_
      | refine CR.cons ?_
      | refine CR.nil ?_
      | refine CG.nil ?_
      | refine CG.consG rfl ?_
      | refine ⟨(rfl : plain _ = true), ?_⟩
      | refine ⟨(rfl : nilOk _ = some _), ?_⟩
      | refine ⟨_, ints_len (by assumption), ?_⟩
      | refine ⟨_, ints_addr (by assumption) (by omega) (by omega), ?_⟩
      | refine ⟨_, ints_load (by assumption) (by omega) (by omega), ?_⟩
      | refine ⟨(⟨by omega, by omega⟩ : inI64 _), ?_⟩
      | refine ⟨_, fun tm ha => step1_max rfl (ev_tmp ha rfl) (ev_tmp ha rfl), ?_⟩
      | refine ⟨_, fun tm ha => step1_min rfl (ev_tmp ha rfl) (ev_tmp ha rfl), ?_⟩
      | refine slice_lo hv (by omega) (by omega) ?_
      | (refine ⟨fun _ => ?_, fun _ => ?_⟩ <;> first | (exfalso; omega) | skip)
      | fail
    intro u hu
    repeat' first
      | refine CO.cons rfl ?_
      | refine CO.nil ?_
      | refine CV.seq ?_
      | refine CV.region callees ?_
      | refine CV.cond ?_
      | refine CV.block ?_
      | refine CV.skip ?_
      | refine CV.exit ?_
      | refine CV.ret ?_
      | refine CV.scope ?_
      | refine CV.draw callees (by decide +kernel) ?_
      | refine CH.cons rfl ?_
      | refine CH.nil ?_
      | refine CO.consG rfl ?_
      | refine CH.consG rfl ?_
      | refine CG.cons rfl ?_
      | refine CR.cons ?_
      | refine CR.nil ?_
      | refine CG.nil ?_
      | refine CG.consG rfl ?_
      | refine ⟨(rfl : plain _ = true), ?_⟩
      | refine ⟨(rfl : nilOk _ = some _), ?_⟩
      | refine ⟨_, ints_len (by assumption), ?_⟩
      | refine ⟨_, ints_addr (by assumption) (by omega) (by omega), ?_⟩
      | refine ⟨_, ints_load (by assumption) (by omega) (by omega), ?_⟩
      | refine ⟨(⟨by omega, by omega⟩ : inI64 _), ?_⟩
      | refine ⟨_, fun tm ha => step1_max rfl (ev_tmp ha rfl) (ev_tmp ha rfl), ?_⟩
      | refine ⟨_, fun tm ha => step1_min rfl (ev_tmp ha rfl) (ev_tmp ha rfl), ?_⟩
      | (refine ⟨fun _ => ?_, fun _ => ?_⟩ <;> first | (exfalso; omega) | skip)
      | fail
    refine (contains_spec (Nat.le_refl _) hu (by rw [List.length_drop]; omega)).mono ?_
    rintro r H2 ⟨rfl, rfl⟩
    rw [show ((i : Int) + 1).toNat = i + 1 by omega, show ((i : Int).toNat) = i from rfl]
    by_cases hd : xs[i]! ∈ xs.drop (i + 1)
    · rw [decide_eq_true hd]
      repeat' first
        | refine CO.cons rfl ?_
        | refine CO.nil ?_
        | refine CV.seq ?_
        | refine CV.region callees ?_
        | refine CV.cond ?_
        | refine CV.block ?_
        | refine CV.skip ?_
        | refine CV.exit ?_
        | refine CV.ret ?_
        | refine CV.scope ?_
        | refine CV.draw callees (by decide +kernel) ?_
        | refine CH.cons rfl ?_
        | refine CH.nil ?_
        | refine CO.consG rfl ?_
        | refine CH.consG rfl ?_
        | refine CG.cons rfl ?_
        | refine CR.cons ?_
        | refine CR.nil ?_
        | refine CG.nil ?_
        | refine CG.consG rfl ?_
        | refine ⟨(rfl : plain _ = true), ?_⟩
        | refine ⟨(rfl : nilOk _ = some _), ?_⟩
        | refine ⟨_, ints_len (by assumption), ?_⟩
        | refine ⟨_, ints_addr (by assumption) (by omega) (by omega), ?_⟩
        | refine ⟨_, ints_load (by assumption) (by omega) (by omega), ?_⟩
        | refine ⟨(⟨by omega, by omega⟩ : inI64 _), ?_⟩
        | refine ⟨_, fun tm ha => step1_max rfl (ev_tmp ha rfl) (ev_tmp ha rfl), ?_⟩
        | refine ⟨_, fun tm ha => step1_min rfl (ev_tmp ha rfl) (ev_tmp ha rfl), ?_⟩
        | (refine ⟨fun _ => ?_, fun _ => ?_⟩ <;> first | (exfalso; omega) | skip)
        | fail
      exact ⟨rfl, rfl, rfl⟩
    · rw [decide_eq_false hd]
      repeat' first
        | refine CO.cons rfl ?_
        | refine CO.nil ?_
        | refine CV.seq ?_
        | refine CV.region callees ?_
        | refine CV.cond ?_
        | refine CV.block ?_
        | refine CV.skip ?_
        | refine CV.exit ?_
        | refine CV.ret ?_
        | refine CV.scope ?_
        | refine CV.draw callees (by decide +kernel) ?_
        | refine CH.cons rfl ?_
        | refine CH.nil ?_
        | refine CO.consG rfl ?_
        | refine CH.consG rfl ?_
        | refine CG.cons rfl ?_
        | refine CR.cons ?_
        | refine CR.nil ?_
        | refine CG.nil ?_
        | refine CG.consG rfl ?_
        | refine ⟨(rfl : plain _ = true), ?_⟩
        | refine ⟨(rfl : nilOk _ = some _), ?_⟩
        | refine ⟨_, ints_len (by assumption), ?_⟩
        | refine ⟨_, ints_addr (by assumption) (by omega) (by omega), ?_⟩
        | refine ⟨_, ints_load (by assumption) (by omega) (by omega), ?_⟩
        | refine ⟨(⟨by omega, by omega⟩ : inI64 _), ?_⟩
        | refine ⟨_, fun tm ha => step1_max rfl (ev_tmp ha rfl) (ev_tmp ha rfl), ?_⟩
        | refine ⟨_, fun tm ha => step1_min rfl (ev_tmp ha rfl) (ev_tmp ha rfl), ?_⟩
        | (refine ⟨fun _ => ?_, fun _ => ?_⟩ <;> first | (exfalso; omega) | skip)
        | fail
      exact ⟨rfl, rfl, rfl⟩
theorem wrt_of {ws : List Int} {i : Nat} : wrt ws i = decide (ws[i]! ≠ -1) := rfl
set_option maxHeartbeats 1000000 in
set_option maxRecDepth 100000 in
theorem pairs_spec {B : Nat} {H : Heap} {v u : Value} {ts ws : List Int} {k : Nat} (hB : B ≤ H.n) (hv : Ints H v ts) (hu : Ints H u ws) (hl : ws.length = ts.length) (h9 : ws.length ≤ 9) (hk : k < ws.length) :
    CallB Try.prog B 136 [v, u, .int .i64 (k : Int)] H (fun r H' => r = .tuple #[.int .i64 (rtN ts ws k k : Int), .int .i64 (wgN ts ws k k : Int)] ∧ H' = H) := by
  refine CV.enter callees false rfl Try.func136 rfl (by kernel_rfl) (Nat.le_of_ble_eq_true rfl) hB ?_
  repeat' first
    | refine CO.cons rfl ?_
    | refine CO.nil ?_
    | refine CV.seq ?_
    | refine CV.region callees ?_
    | refine CV.cond ?_
    | refine CV.block ?_
    | refine CV.skip ?_
    | refine CV.exit ?_
    | refine CV.ret ?_
    | refine CV.scope ?_
    | refine CV.draw callees (by decide +kernel) ?_
    | refine CH.cons rfl ?_
    | refine CH.nil ?_
    | refine CO.consG rfl ?_
    | refine CH.consG rfl ?_
    | refine CG.cons rfl ?_
    | refine CR.cons ?_
    | refine CR.nil ?_
    | refine CG.nil ?_
    | refine CG.consG rfl ?_
    | refine ⟨(rfl : plain _ = true), ?_⟩
    | refine ⟨(rfl : nilOk _ = some _), ?_⟩
    | refine ⟨_, ints_len (by assumption), ?_⟩
    | refine ⟨_, ints_addr (by assumption) (by omega) (by omega), ?_⟩
    | refine ⟨_, ints_load (by assumption) (by omega) (by omega), ?_⟩
    | refine ⟨(⟨by omega, by omega⟩ : inI64 _), ?_⟩
    | refine ⟨_, fun tm ha => step1_max rfl (ev_tmp ha rfl) (ev_tmp ha rfl), ?_⟩
    | refine ⟨_, fun tm ha => step1_min rfl (ev_tmp ha rfl) (ev_tmp ha rfl), ?_⟩
    | (refine ⟨fun _ => ?_, fun _ => ?_⟩ <;> first | (exfalso; omega) | skip)
    | fail
  refine CV.loopc ?_
  refine WCv.rounds callees false (α := Nat) (fun i => [(0, v), (1, u), (2, .int .i64 k), (9, .int .i64 k), (10, .int .i64 i), (6, .int .i64 (rtN ts ws k i : Int)), (7, .int .i64 (wgN ts ws k i : Int))]) (fun i Hz => Hz = H ∧ i ≤ k) (fun i => k - i) (0) (by repeat' first | exact trivial | refine ⟨rfl, ?_⟩ | refine ⟨slot_int (by (try simp only [Int.toNat_natCast]); omega), ?_⟩) ?_ ?_
  · exact ⟨rfl, by omega⟩
  rintro i Hx ⟨rfl, hi⟩ hBx
  have hrw := rw_le ts ws k i
  by_cases hi2 : i < k
  · have hxi : ws[(i : Int).toNat]! = ws[i]! := rfl
    repeat' first
      | refine CO.cons rfl ?_
      | refine CO.nil ?_
      | refine CV.seq ?_
      | refine CV.region callees ?_
      | refine CV.cond ?_
      | refine CV.block ?_
      | refine CV.skip ?_
      | refine CV.exit ?_
      | refine CV.ret ?_
      | refine CV.scope ?_
      | refine CV.draw callees (by decide +kernel) ?_
      | refine CH.cons rfl ?_
      | refine CH.nil ?_
      | refine CO.consG rfl ?_
      | refine CH.consG rfl ?_
      | refine CG.cons rfl ?_
      | refine CR.cons ?_
      | refine CR.nil ?_
      | refine CG.nil ?_
      | refine CG.consG rfl ?_
      | refine ⟨(rfl : plain _ = true), ?_⟩
      | refine ⟨(rfl : nilOk _ = some _), ?_⟩
      | refine ⟨_, ints_len (by assumption), ?_⟩
      | refine ⟨_, ints_addr (by assumption) (by omega) (by omega), ?_⟩
      | refine ⟨_, ints_load (by assumption) (by omega) (by omega), ?_⟩
      | refine ⟨(⟨by omega, by omega⟩ : inI64 _), ?_⟩
      | refine ⟨_, fun tm ha => step1_max rfl (ev_tmp ha rfl) (ev_tmp ha rfl), ?_⟩
      | refine ⟨_, fun tm ha => step1_min rfl (ev_tmp ha rfl) (ev_tmp ha rfl), ?_⟩
      | (refine ⟨fun _ => ?_, fun _ => ?_⟩ <;> first | (exfalso; omega) | skip)
      | fail
    rw [hxi]
    refine (written_spec hBx).mono ?_
    rintro r H1 ⟨rfl, rfl⟩
    by_cases hw : ws[i]! = -1
    · have hwt : wrt ws i = false := by rw [wrt_of]; exact decide_eq_false (fun h => h hw)
      have e1 : rtN ts ws k (i + 1) = rtN ts ws k i := by rw [rtN, hwt]; simp
      have e2 : wgN ts ws k (i + 1) = wgN ts ws k i := by rw [wgN, hwt]; simp
      rw [decide_eq_false (fun h => h hw)]
      repeat' first
        | refine CO.cons rfl ?_
        | refine CO.nil ?_
        | refine CV.seq ?_
        | refine CV.region callees ?_
        | refine CV.cond ?_
        | refine CV.block ?_
        | refine CV.skip ?_
        | refine CV.exit ?_
        | refine CV.ret ?_
        | refine CV.scope ?_
        | refine CV.draw callees (by decide +kernel) ?_
        | refine CH.cons rfl ?_
        | refine CH.nil ?_
        | refine CO.consG rfl ?_
        | refine CH.consG rfl ?_
        | refine CG.cons rfl ?_
        | refine CR.cons ?_
        | refine CR.nil ?_
        | refine CG.nil ?_
        | refine CG.consG rfl ?_
        | refine ⟨(rfl : plain _ = true), ?_⟩
        | refine ⟨(rfl : nilOk _ = some _), ?_⟩
        | refine ⟨_, ints_len (by assumption), ?_⟩
        | refine ⟨_, ints_addr (by assumption) (by omega) (by omega), ?_⟩
        | refine ⟨_, ints_load (by assumption) (by omega) (by omega), ?_⟩
        | refine ⟨(⟨by omega, by omega⟩ : inI64 _), ?_⟩
        | refine ⟨_, fun tm ha => step1_max rfl (ev_tmp ha rfl) (ev_tmp ha rfl), ?_⟩
        | refine ⟨_, fun tm ha => step1_min rfl (ev_tmp ha rfl) (ev_tmp ha rfl), ?_⟩
        | (refine ⟨fun _ => ?_, fun _ => ?_⟩ <;> first | (exfalso; omega) | skip)
        | fail
      refine ⟨(i + 1), (by repeat' first | exact trivial | refine ⟨rfl, ?_⟩ | refine ⟨slot_int (by (try simp only [Int.toNat_natCast]); omega), ?_⟩), (by (try dsimp only); omega), ?_⟩
      exact ⟨rfl, by omega⟩
    · have hwt : wrt ws i = true := by rw [wrt_of]; exact decide_eq_true hw
      rw [decide_eq_true hw]
      repeat' first
        | refine CO.cons rfl ?_
        | refine CO.nil ?_
        | refine CV.seq ?_
        | refine CV.region callees ?_
        | refine CV.cond ?_
        | refine CV.block ?_
        | refine CV.skip ?_
        | refine CV.exit ?_
        | refine CV.ret ?_
        | refine CV.scope ?_
        | refine CV.draw callees (by decide +kernel) ?_
        | refine CH.cons rfl ?_
        | refine CH.nil ?_
        | refine CO.consG rfl ?_
        | refine CH.consG rfl ?_
        | refine CG.cons rfl ?_
        | refine CR.cons ?_
        | refine CR.nil ?_
        | refine CG.nil ?_
        | refine CG.consG rfl ?_
        | refine ⟨(rfl : plain _ = true), ?_⟩
        | refine ⟨(rfl : nilOk _ = some _), ?_⟩
        | refine ⟨_, ints_len (by assumption), ?_⟩
        | refine ⟨_, ints_addr (by assumption) (by omega) (by omega), ?_⟩
        | refine ⟨_, ints_load (by assumption) (by omega) (by omega), ?_⟩
        | refine ⟨(⟨by omega, by omega⟩ : inI64 _), ?_⟩
        | refine ⟨_, fun tm ha => step1_max rfl (ev_tmp ha rfl) (ev_tmp ha rfl), ?_⟩
        | refine ⟨_, fun tm ha => step1_min rfl (ev_tmp ha rfl) (ev_tmp ha rfl), ?_⟩
        | refine ⟨_, fun tm ha => step1_boolEql un4 rfl (ev_tmp ha rfl) (ev_tmp ha rfl), ?_⟩
        | (refine ⟨fun _ => ?_, fun _ => ?_⟩ <;> first | (exfalso; omega) | skip)
        | fail
      · have hp : prR ts ws k i = true := by unfold prR; rw [decide_eq_true (by assumption), decide_eq_true (by assumption)]; rfl
        have e1 : rtN ts ws k (i + 1) = rtN ts ws k i + 1 := by rw [rtN, hwt, hp]; simp
        have e2 : wgN ts ws k (i + 1) = wgN ts ws k i := by rw [wgN, hwt, hp]; simp
        repeat' first
          | refine CO.cons rfl ?_
          | refine CO.nil ?_
          | refine CV.seq ?_
          | refine CV.region callees ?_
          | refine CV.cond ?_
          | refine CV.block ?_
          | refine CV.skip ?_
          | refine CV.exit ?_
          | refine CV.ret ?_
          | refine CV.scope ?_
          | refine CV.draw callees (by decide +kernel) ?_
          | refine CH.cons rfl ?_
          | refine CH.nil ?_
          | refine CO.consG rfl ?_
          | refine CH.consG rfl ?_
          | refine CG.cons rfl ?_
          | refine CR.cons ?_
          | refine CR.nil ?_
          | refine CG.nil ?_
          | refine CG.consG rfl ?_
          | refine ⟨(rfl : plain _ = true), ?_⟩
          | refine ⟨(rfl : nilOk _ = some _), ?_⟩
          | refine ⟨_, ints_len (by assumption), ?_⟩
          | refine ⟨_, ints_addr (by assumption) (by omega) (by omega), ?_⟩
          | refine ⟨_, ints_load (by assumption) (by omega) (by omega), ?_⟩
          | refine ⟨(⟨by omega, by omega⟩ : inI64 _), ?_⟩
          | refine ⟨_, fun tm ha => step1_max rfl (ev_tmp ha rfl) (ev_tmp ha rfl), ?_⟩
          | refine ⟨_, fun tm ha => step1_min rfl (ev_tmp ha rfl) (ev_tmp ha rfl), ?_⟩
          | (refine ⟨fun _ => ?_, fun _ => ?_⟩ <;> first | (exfalso; omega) | skip)
          | fail
        refine ⟨(i + 1), (by repeat' first | exact trivial | refine ⟨rfl, ?_⟩ | refine ⟨slot_int (by (try simp only [Int.toNat_natCast]); omega), ?_⟩), (by (try dsimp only); omega), ?_⟩
        exact ⟨rfl, by omega⟩
      · have hp : prR ts ws k i = false := by unfold prR; rw [decide_eq_true (by assumption), decide_eq_false (by assumption)]; rfl
        have e1 : rtN ts ws k (i + 1) = rtN ts ws k i := by rw [rtN, hwt, hp]; simp
        have e2 : wgN ts ws k (i + 1) = wgN ts ws k i + 1 := by rw [wgN, hwt, hp]; simp
        repeat' first
          | refine CO.cons rfl ?_
          | refine CO.nil ?_
          | refine CV.seq ?_
          | refine CV.region callees ?_
          | refine CV.cond ?_
          | refine CV.block ?_
          | refine CV.skip ?_
          | refine CV.exit ?_
          | refine CV.ret ?_
          | refine CV.scope ?_
          | refine CV.draw callees (by decide +kernel) ?_
          | refine CH.cons rfl ?_
          | refine CH.nil ?_
          | refine CO.consG rfl ?_
          | refine CH.consG rfl ?_
          | refine CG.cons rfl ?_
          | refine CR.cons ?_
          | refine CR.nil ?_
          | refine CG.nil ?_
          | refine CG.consG rfl ?_
          | refine ⟨(rfl : plain _ = true), ?_⟩
          | refine ⟨(rfl : nilOk _ = some _), ?_⟩
          | refine ⟨_, ints_len (by assumption), ?_⟩
          | refine ⟨_, ints_addr (by assumption) (by omega) (by omega), ?_⟩
          | refine ⟨_, ints_load (by assumption) (by omega) (by omega), ?_⟩
          | refine ⟨(⟨by omega, by omega⟩ : inI64 _), ?_⟩
          | refine ⟨_, fun tm ha => step1_max rfl (ev_tmp ha rfl) (ev_tmp ha rfl), ?_⟩
          | refine ⟨_, fun tm ha => step1_min rfl (ev_tmp ha rfl) (ev_tmp ha rfl), ?_⟩
          | (refine ⟨fun _ => ?_, fun _ => ?_⟩ <;> first | (exfalso; omega) | skip)
          | fail
        refine ⟨(i + 1), (by repeat' first | exact trivial | refine ⟨rfl, ?_⟩ | refine ⟨slot_int (by (try simp only [Int.toNat_natCast]); omega), ?_⟩), (by (try dsimp only); omega), ?_⟩
        exact ⟨rfl, by omega⟩
      · have hp : prR ts ws k i = false := by unfold prR; rw [decide_eq_false (by assumption), decide_eq_true (by assumption)]; rfl
        have e1 : rtN ts ws k (i + 1) = rtN ts ws k i := by rw [rtN, hwt, hp]; simp
        have e2 : wgN ts ws k (i + 1) = wgN ts ws k i + 1 := by rw [wgN, hwt, hp]; simp
        repeat' first
          | refine CO.cons rfl ?_
          | refine CO.nil ?_
          | refine CV.seq ?_
          | refine CV.region callees ?_
          | refine CV.cond ?_
          | refine CV.block ?_
          | refine CV.skip ?_
          | refine CV.exit ?_
          | refine CV.ret ?_
          | refine CV.scope ?_
          | refine CV.draw callees (by decide +kernel) ?_
          | refine CH.cons rfl ?_
          | refine CH.nil ?_
          | refine CO.consG rfl ?_
          | refine CH.consG rfl ?_
          | refine CG.cons rfl ?_
          | refine CR.cons ?_
          | refine CR.nil ?_
          | refine CG.nil ?_
          | refine CG.consG rfl ?_
          | refine ⟨(rfl : plain _ = true), ?_⟩
          | refine ⟨(rfl : nilOk _ = some _), ?_⟩
          | refine ⟨_, ints_len (by assumption), ?_⟩
          | refine ⟨_, ints_addr (by assumption) (by omega) (by omega), ?_⟩
          | refine ⟨_, ints_load (by assumption) (by omega) (by omega), ?_⟩
          | refine ⟨(⟨by omega, by omega⟩ : inI64 _), ?_⟩
          | refine ⟨_, fun tm ha => step1_max rfl (ev_tmp ha rfl) (ev_tmp ha rfl), ?_⟩
          | refine ⟨_, fun tm ha => step1_min rfl (ev_tmp ha rfl) (ev_tmp ha rfl), ?_⟩
          | (refine ⟨fun _ => ?_, fun _ => ?_⟩ <;> first | (exfalso; omega) | skip)
          | fail
        refine ⟨(i + 1), (by repeat' first | exact trivial | refine ⟨rfl, ?_⟩ | refine ⟨slot_int (by (try simp only [Int.toNat_natCast]); omega), ?_⟩), (by (try dsimp only); omega), ?_⟩
        exact ⟨rfl, by omega⟩
      · have hp : prR ts ws k i = true := by unfold prR; rw [decide_eq_false (by assumption), decide_eq_false (by assumption)]; rfl
        have e1 : rtN ts ws k (i + 1) = rtN ts ws k i + 1 := by rw [rtN, hwt, hp]; simp
        have e2 : wgN ts ws k (i + 1) = wgN ts ws k i := by rw [wgN, hwt, hp]; simp
        repeat' first
          | refine CO.cons rfl ?_
          | refine CO.nil ?_
          | refine CV.seq ?_
          | refine CV.region callees ?_
          | refine CV.cond ?_
          | refine CV.block ?_
          | refine CV.skip ?_
          | refine CV.exit ?_
          | refine CV.ret ?_
          | refine CV.scope ?_
          | refine CV.draw callees (by decide +kernel) ?_
          | refine CH.cons rfl ?_
          | refine CH.nil ?_
          | refine CO.consG rfl ?_
          | refine CH.consG rfl ?_
          | refine CG.cons rfl ?_
          | refine CR.cons ?_
          | refine CR.nil ?_
          | refine CG.nil ?_
          | refine CG.consG rfl ?_
          | refine ⟨(rfl : plain _ = true), ?_⟩
          | refine ⟨(rfl : nilOk _ = some _), ?_⟩
          | refine ⟨_, ints_len (by assumption), ?_⟩
          | refine ⟨_, ints_addr (by assumption) (by omega) (by omega), ?_⟩
          | refine ⟨_, ints_load (by assumption) (by omega) (by omega), ?_⟩
          | refine ⟨(⟨by omega, by omega⟩ : inI64 _), ?_⟩
          | refine ⟨_, fun tm ha => step1_max rfl (ev_tmp ha rfl) (ev_tmp ha rfl), ?_⟩
          | refine ⟨_, fun tm ha => step1_min rfl (ev_tmp ha rfl) (ev_tmp ha rfl), ?_⟩
          | (refine ⟨fun _ => ?_, fun _ => ?_⟩ <;> first | (exfalso; omega) | skip)
          | fail
        refine ⟨(i + 1), (by repeat' first | exact trivial | refine ⟨rfl, ?_⟩ | refine ⟨slot_int (by (try simp only [Int.toNat_natCast]); omega), ?_⟩), (by (try dsimp only); omega), ?_⟩
        exact ⟨rfl, by omega⟩
  · have : i = k := by omega
    subst this
    repeat' first
      | refine CO.cons rfl ?_
      | refine CO.nil ?_
      | refine CV.seq ?_
      | refine CV.region callees ?_
      | refine CV.cond ?_
      | refine CV.block ?_
      | refine CV.skip ?_
      | refine CV.exit ?_
      | refine CV.ret ?_
      | refine CV.scope ?_
      | refine CV.draw callees (by decide +kernel) ?_
      | refine CH.cons rfl ?_
      | refine CH.nil ?_
      | refine CO.consG rfl ?_
      | refine CH.consG rfl ?_
      | refine CG.cons rfl ?_
      | refine CR.cons ?_
      | refine CR.nil ?_
      | refine CG.nil ?_
      | refine CG.consG rfl ?_
      | refine ⟨(rfl : plain _ = true), ?_⟩
      | refine ⟨(rfl : nilOk _ = some _), ?_⟩
      | refine ⟨_, ints_len (by assumption), ?_⟩
      | refine ⟨_, ints_addr (by assumption) (by omega) (by omega), ?_⟩
      | refine ⟨_, ints_load (by assumption) (by omega) (by omega), ?_⟩
      | refine ⟨(⟨by omega, by omega⟩ : inI64 _), ?_⟩
      | refine ⟨_, fun tm ha => step1_max rfl (ev_tmp ha rfl) (ev_tmp ha rfl), ?_⟩
      | refine ⟨_, fun tm ha => step1_min rfl (ev_tmp ha rfl) (ev_tmp ha rfl), ?_⟩
      | (refine ⟨fun _ => ?_, fun _ => ?_⟩ <;> first | (exfalso; omega) | skip)
      | fail
    exact ⟨rfl, rfl, rfl⟩
set_option maxHeartbeats 1000000 in
set_option maxRecDepth 100000 in
theorem heard_spec {B : Nat} {H : Heap} {v u : Value} {ts ws : List Int} (hB : B ≤ H.n) (hv : Ints H v ts) (hu : Ints H u ws) (hl : ws.length = ts.length) (h9 : ws.length ≤ 9) :
    CallB Try.prog B 133 [v, u] H (fun r H' => r = .int .i64 (hdN ts ws ws.length : Int) ∧ H' = H) := by
  refine CV.enter callees false rfl Try.func133 rfl (by kernel_rfl) (Nat.le_of_ble_eq_true rfl) hB ?_
  repeat' first
    | refine CO.cons rfl ?_
    | refine CO.nil ?_
    | refine CV.seq ?_
    | refine CV.region callees ?_
    | refine CV.cond ?_
    | refine CV.block ?_
    | refine CV.skip ?_
    | refine CV.exit ?_
    | refine CV.ret ?_
    | refine CV.scope ?_
    | refine CV.draw callees (by decide +kernel) ?_
    | refine CH.cons rfl ?_
    | refine CH.nil ?_
    | refine CO.consG rfl ?_
    | refine CH.consG rfl ?_
    | refine CG.cons rfl ?_
    | refine CR.cons ?_
    | refine CR.nil ?_
    | refine CG.nil ?_
    | refine CG.consG rfl ?_
    | refine ⟨(rfl : plain _ = true), ?_⟩
    | refine ⟨(rfl : nilOk _ = some _), ?_⟩
    | refine ⟨_, ints_len (by assumption), ?_⟩
    | refine ⟨_, ints_addr (by assumption) (by omega) (by omega), ?_⟩
    | refine ⟨_, ints_load (by assumption) (by omega) (by omega), ?_⟩
    | refine ⟨(⟨by omega, by omega⟩ : inI64 _), ?_⟩
    | refine ⟨_, fun tm ha => step1_max rfl (ev_tmp ha rfl) (ev_tmp ha rfl), ?_⟩
    | refine ⟨_, fun tm ha => step1_min rfl (ev_tmp ha rfl) (ev_tmp ha rfl), ?_⟩
    | (refine ⟨fun _ => ?_, fun _ => ?_⟩ <;> first | (exfalso; omega) | skip)
    | fail
  refine CV.loopc ?_
  refine WCv.rounds callees false (α := Nat) (fun i => [(0, v), (1, u), (8, u), (9, .int .i64 ws.length), (10, .int .i64 i), (5, .int .i64 (hdN ts ws i : Int))]) (fun i Hz => Hz = H ∧ i ≤ ws.length) (fun i => ws.length - i) (0) (by repeat' first | exact trivial | refine ⟨rfl, ?_⟩ | refine ⟨slot_int (by (try simp only [Int.toNat_natCast]); omega), ?_⟩) ?_ ?_
  · exact ⟨rfl, by omega⟩
  rintro i Hx ⟨rfl, hi⟩ hBx
  have hhd := hd_le ts ws i
  by_cases hi2 : i < ws.length
  · have hxi : ws[(i : Int).toNat]! = ws[i]! := rfl
    repeat' first
      | refine CO.cons rfl ?_
      | refine CO.nil ?_
      | refine CV.seq ?_
      | refine CV.region callees ?_
      | refine CV.cond ?_
      | refine CV.block ?_
      | refine CV.skip ?_
      | refine CV.exit ?_
      | refine CV.ret ?_
      | refine CV.scope ?_
      | refine CV.draw callees (by decide +kernel) ?_
      | refine CH.cons rfl ?_
      | refine CH.nil ?_
      | refine CO.consG rfl ?_
      | refine CH.consG rfl ?_
      | refine CG.cons rfl ?_
      | refine CR.cons ?_
      | refine CR.nil ?_
      | refine CG.nil ?_
      | refine CG.consG rfl ?_
      | refine ⟨(rfl : plain _ = true), ?_⟩
      | refine ⟨(rfl : nilOk _ = some _), ?_⟩
      | refine ⟨_, ints_len (by assumption), ?_⟩
      | refine ⟨_, ints_addr (by assumption) (by omega) (by omega), ?_⟩
      | refine ⟨_, ints_load (by assumption) (by omega) (by omega), ?_⟩
      | refine ⟨(⟨by omega, by omega⟩ : inI64 _), ?_⟩
      | refine ⟨_, fun tm ha => step1_max rfl (ev_tmp ha rfl) (ev_tmp ha rfl), ?_⟩
      | refine ⟨_, fun tm ha => step1_min rfl (ev_tmp ha rfl) (ev_tmp ha rfl), ?_⟩
      | (refine ⟨fun _ => ?_, fun _ => ?_⟩ <;> first | (exfalso; omega) | skip)
      | fail
    rw [hxi]
    refine (written_spec hBx).mono ?_
    rintro r H1 ⟨rfl, rfl⟩
    by_cases hw : ws[i]! = -1
    · have hwt : wrt ws i = false := by rw [wrt_of]; exact decide_eq_false (fun h => h hw)
      have e1 : hdN ts ws (i + 1) = hdN ts ws i := by rw [hdN, hwt]; simp
      rw [decide_eq_false (fun h => h hw)]
      repeat' first
        | refine CO.cons rfl ?_
        | refine CO.nil ?_
        | refine CV.seq ?_
        | refine CV.region callees ?_
        | refine CV.cond ?_
        | refine CV.block ?_
        | refine CV.skip ?_
        | refine CV.exit ?_
        | refine CV.ret ?_
        | refine CV.scope ?_
        | refine CV.draw callees (by decide +kernel) ?_
        | refine CH.cons rfl ?_
        | refine CH.nil ?_
        | refine CO.consG rfl ?_
        | refine CH.consG rfl ?_
        | refine CG.cons rfl ?_
        | refine CR.cons ?_
        | refine CR.nil ?_
        | refine CG.nil ?_
        | refine CG.consG rfl ?_
        | refine ⟨(rfl : plain _ = true), ?_⟩
        | refine ⟨(rfl : nilOk _ = some _), ?_⟩
        | refine ⟨_, ints_len (by assumption), ?_⟩
        | refine ⟨_, ints_addr (by assumption) (by omega) (by omega), ?_⟩
        | refine ⟨_, ints_load (by assumption) (by omega) (by omega), ?_⟩
        | refine ⟨(⟨by omega, by omega⟩ : inI64 _), ?_⟩
        | refine ⟨_, fun tm ha => step1_max rfl (ev_tmp ha rfl) (ev_tmp ha rfl), ?_⟩
        | refine ⟨_, fun tm ha => step1_min rfl (ev_tmp ha rfl) (ev_tmp ha rfl), ?_⟩
        | (refine ⟨fun _ => ?_, fun _ => ?_⟩ <;> first | (exfalso; omega) | skip)
        | fail
      refine ⟨(i + 1), (by repeat' first | exact trivial | refine ⟨rfl, ?_⟩ | refine ⟨slot_int (by (try simp only [Int.toNat_natCast]); omega), ?_⟩), (by (try dsimp only); omega), ?_⟩
      exact ⟨rfl, by omega⟩
    · have hwt : wrt ws i = true := by rw [wrt_of]; exact decide_eq_true hw
      rw [decide_eq_true hw]
      repeat' first
        | refine CO.cons rfl ?_
        | refine CO.nil ?_
        | refine CV.seq ?_
        | refine CV.region callees ?_
        | refine CV.cond ?_
        | refine CV.block ?_
        | refine CV.skip ?_
        | refine CV.exit ?_
        | refine CV.ret ?_
        | refine CV.scope ?_
        | refine CV.draw callees (by decide +kernel) ?_
        | refine CH.cons rfl ?_
        | refine CH.nil ?_
        | refine CO.consG rfl ?_
        | refine CH.consG rfl ?_
        | refine CG.cons rfl ?_
        | refine CR.cons ?_
        | refine CR.nil ?_
        | refine CG.nil ?_
        | refine CG.consG rfl ?_
        | refine ⟨(rfl : plain _ = true), ?_⟩
        | refine ⟨(rfl : nilOk _ = some _), ?_⟩
        | refine ⟨_, ints_len (by assumption), ?_⟩
        | refine ⟨_, ints_addr (by assumption) (by omega) (by omega), ?_⟩
        | refine ⟨_, ints_load (by assumption) (by omega) (by omega), ?_⟩
        | refine ⟨(⟨by omega, by omega⟩ : inI64 _), ?_⟩
        | refine ⟨_, fun tm ha => step1_max rfl (ev_tmp ha rfl) (ev_tmp ha rfl), ?_⟩
        | refine ⟨_, fun tm ha => step1_min rfl (ev_tmp ha rfl) (ev_tmp ha rfl), ?_⟩
        | (refine ⟨fun _ => ?_, fun _ => ?_⟩ <;> first | (exfalso; omega) | skip)
        | fail
      refine (alone_spec hBx hv (by omega) (by omega)).mono ?_
      rintro r H2 ⟨rfl, rfl⟩
      cases ha : alo ts i with
      | false =>
        have e1 : hdN ts ws (i + 1) = hdN ts ws i := by rw [hdN, hwt, ha]; simp
        repeat' first
          | refine CO.cons rfl ?_
          | refine CO.nil ?_
          | refine CV.seq ?_
          | refine CV.region callees ?_
          | refine CV.cond ?_
          | refine CV.block ?_
          | refine CV.skip ?_
          | refine CV.exit ?_
          | refine CV.ret ?_
          | refine CV.scope ?_
          | refine CV.draw callees (by decide +kernel) ?_
          | refine CH.cons rfl ?_
          | refine CH.nil ?_
          | refine CO.consG rfl ?_
          | refine CH.consG rfl ?_
          | refine CG.cons rfl ?_
          | refine CR.cons ?_
          | refine CR.nil ?_
          | refine CG.nil ?_
          | refine CG.consG rfl ?_
          | refine ⟨(rfl : plain _ = true), ?_⟩
          | refine ⟨(rfl : nilOk _ = some _), ?_⟩
          | refine ⟨_, ints_len (by assumption), ?_⟩
          | refine ⟨_, ints_addr (by assumption) (by omega) (by omega), ?_⟩
          | refine ⟨_, ints_load (by assumption) (by omega) (by omega), ?_⟩
          | refine ⟨(⟨by omega, by omega⟩ : inI64 _), ?_⟩
          | refine ⟨_, fun tm ha => step1_max rfl (ev_tmp ha rfl) (ev_tmp ha rfl), ?_⟩
          | refine ⟨_, fun tm ha => step1_min rfl (ev_tmp ha rfl) (ev_tmp ha rfl), ?_⟩
          | (refine ⟨fun _ => ?_, fun _ => ?_⟩ <;> first | (exfalso; omega) | skip)
          | fail
        refine ⟨(i + 1), (by repeat' first | exact trivial | refine ⟨rfl, ?_⟩ | refine ⟨slot_int (by (try simp only [Int.toNat_natCast]); omega), ?_⟩), (by (try dsimp only); omega), ?_⟩
        exact ⟨rfl, by omega⟩
      | true =>
        repeat' first
          | refine CO.cons rfl ?_
          | refine CO.nil ?_
          | refine CV.seq ?_
          | refine CV.region callees ?_
          | refine CV.cond ?_
          | refine CV.block ?_
          | refine CV.skip ?_
          | refine CV.exit ?_
          | refine CV.ret ?_
          | refine CV.scope ?_
          | refine CV.draw callees (by decide +kernel) ?_
          | refine CH.cons rfl ?_
          | refine CH.nil ?_
          | refine CO.consG rfl ?_
          | refine CH.consG rfl ?_
          | refine CG.cons rfl ?_
          | refine CR.cons ?_
          | refine CR.nil ?_
          | refine CG.nil ?_
          | refine CG.consG rfl ?_
          | refine ⟨(rfl : plain _ = true), ?_⟩
          | refine ⟨(rfl : nilOk _ = some _), ?_⟩
          | refine ⟨_, ints_len (by assumption), ?_⟩
          | refine ⟨_, ints_addr (by assumption) (by omega) (by omega), ?_⟩
          | refine ⟨_, ints_load (by assumption) (by omega) (by omega), ?_⟩
          | refine ⟨(⟨by omega, by omega⟩ : inI64 _), ?_⟩
          | refine ⟨_, fun tm ha => step1_max rfl (ev_tmp ha rfl) (ev_tmp ha rfl), ?_⟩
          | refine ⟨_, fun tm ha => step1_min rfl (ev_tmp ha rfl) (ev_tmp ha rfl), ?_⟩
          | (refine ⟨fun _ => ?_, fun _ => ?_⟩ <;> first | (exfalso; omega) | skip)
          | fail
        refine (alone_spec hBx hu (by omega) (by omega)).mono ?_
        rintro r H3 ⟨rfl, rfl⟩
        cases hb : alo ws i with
        | false =>
          have e1 : hdN ts ws (i + 1) = hdN ts ws i := by rw [hdN, hwt, ha, hb]; simp
          repeat' first
            | refine CO.cons rfl ?_
            | refine CO.nil ?_
            | refine CV.seq ?_
            | refine CV.region callees ?_
            | refine CV.cond ?_
            | refine CV.block ?_
            | refine CV.skip ?_
            | refine CV.exit ?_
            | refine CV.ret ?_
            | refine CV.scope ?_
            | refine CV.draw callees (by decide +kernel) ?_
            | refine CH.cons rfl ?_
            | refine CH.nil ?_
            | refine CO.consG rfl ?_
            | refine CH.consG rfl ?_
            | refine CG.cons rfl ?_
            | refine CR.cons ?_
            | refine CR.nil ?_
            | refine CG.nil ?_
            | refine CG.consG rfl ?_
            | refine ⟨(rfl : plain _ = true), ?_⟩
            | refine ⟨(rfl : nilOk _ = some _), ?_⟩
            | refine ⟨_, ints_len (by assumption), ?_⟩
            | refine ⟨_, ints_addr (by assumption) (by omega) (by omega), ?_⟩
            | refine ⟨_, ints_load (by assumption) (by omega) (by omega), ?_⟩
            | refine ⟨(⟨by omega, by omega⟩ : inI64 _), ?_⟩
            | refine ⟨_, fun tm ha => step1_max rfl (ev_tmp ha rfl) (ev_tmp ha rfl), ?_⟩
            | refine ⟨_, fun tm ha => step1_min rfl (ev_tmp ha rfl) (ev_tmp ha rfl), ?_⟩
            | (refine ⟨fun _ => ?_, fun _ => ?_⟩ <;> first | (exfalso; omega) | skip)
            | fail
          refine ⟨(i + 1), (by repeat' first | exact trivial | refine ⟨rfl, ?_⟩ | refine ⟨slot_int (by (try simp only [Int.toNat_natCast]); omega), ?_⟩), (by (try dsimp only); omega), ?_⟩
          exact ⟨rfl, by omega⟩
        | true =>
          have e1 : hdN ts ws (i + 1) = hdN ts ws i + 1 := by rw [hdN, hwt, ha, hb]; simp
          repeat' first
            | refine CO.cons rfl ?_
            | refine CO.nil ?_
            | refine CV.seq ?_
            | refine CV.region callees ?_
            | refine CV.cond ?_
            | refine CV.block ?_
            | refine CV.skip ?_
            | refine CV.exit ?_
            | refine CV.ret ?_
            | refine CV.scope ?_
            | refine CV.draw callees (by decide +kernel) ?_
            | refine CH.cons rfl ?_
            | refine CH.nil ?_
            | refine CO.consG rfl ?_
            | refine CH.consG rfl ?_
            | refine CG.cons rfl ?_
            | refine CR.cons ?_
            | refine CR.nil ?_
            | refine CG.nil ?_
            | refine CG.consG rfl ?_
            | refine ⟨(rfl : plain _ = true), ?_⟩
            | refine ⟨(rfl : nilOk _ = some _), ?_⟩
            | refine ⟨_, ints_len (by assumption), ?_⟩
            | refine ⟨_, ints_addr (by assumption) (by omega) (by omega), ?_⟩
            | refine ⟨_, ints_load (by assumption) (by omega) (by omega), ?_⟩
            | refine ⟨(⟨by omega, by omega⟩ : inI64 _), ?_⟩
            | refine ⟨_, fun tm ha => step1_max rfl (ev_tmp ha rfl) (ev_tmp ha rfl), ?_⟩
            | refine ⟨_, fun tm ha => step1_min rfl (ev_tmp ha rfl) (ev_tmp ha rfl), ?_⟩
            | (refine ⟨fun _ => ?_, fun _ => ?_⟩ <;> first | (exfalso; omega) | skip)
            | fail
          refine ⟨(i + 1), (by repeat' first | exact trivial | refine ⟨rfl, ?_⟩ | refine ⟨slot_int (by (try simp only [Int.toNat_natCast]); omega), ?_⟩), (by (try dsimp only); omega), ?_⟩
          exact ⟨rfl, by omega⟩
  · have : i = ws.length := by omega
    subst this
    repeat' first
      | refine CO.cons rfl ?_
      | refine CO.nil ?_
      | refine CV.seq ?_
      | refine CV.region callees ?_
      | refine CV.cond ?_
      | refine CV.block ?_
      | refine CV.skip ?_
      | refine CV.exit ?_
      | refine CV.ret ?_
      | refine CV.scope ?_
      | refine CV.draw callees (by decide +kernel) ?_
      | refine CH.cons rfl ?_
      | refine CH.nil ?_
      | refine CO.consG rfl ?_
      | refine CH.consG rfl ?_
      | refine CG.cons rfl ?_
      | refine CR.cons ?_
      | refine CR.nil ?_
      | refine CG.nil ?_
      | refine CG.consG rfl ?_
      | refine ⟨(rfl : plain _ = true), ?_⟩
      | refine ⟨(rfl : nilOk _ = some _), ?_⟩
      | refine ⟨_, ints_len (by assumption), ?_⟩
      | refine ⟨_, ints_addr (by assumption) (by omega) (by omega), ?_⟩
      | refine ⟨_, ints_load (by assumption) (by omega) (by omega), ?_⟩
      | refine ⟨(⟨by omega, by omega⟩ : inI64 _), ?_⟩
      | refine ⟨_, fun tm ha => step1_max rfl (ev_tmp ha rfl) (ev_tmp ha rfl), ?_⟩
      | refine ⟨_, fun tm ha => step1_min rfl (ev_tmp ha rfl) (ev_tmp ha rfl), ?_⟩
      | (refine ⟨fun _ => ?_, fun _ => ?_⟩ <;> first | (exfalso; omega) | skip)
      | fail
    exact ⟨rfl, rfl, rfl⟩
set_option maxHeartbeats 1000000 in
set_option maxRecDepth 100000 in
theorem honour_spec {B : Nat} {H : Heap} {v u : Value} {ts ws : List Int} (hB : B ≤ H.n) (hv : Ints H v ts) (hu : Ints H u ws) (ht : check ts = 0) (hl : ws.length = ts.length) :
    CallB Try.prog B 134 [v, u] H (fun r H' => (∃ h, r = .int .i64 h ∧ Hon ts ws h ∧ 0 ≤ h ∧ h ≤ 3) ∧ Keep H H') := by
  have h9 := check_len ht
  refine CV.enter callees false rfl Try.func134 rfl (by kernel_rfl) (Nat.le_of_ble_eq_true rfl) hB ?_
  repeat' first
    | refine CO.cons rfl ?_
    | refine CO.nil ?_
    | refine CV.seq ?_
    | refine CV.region callees ?_
    | refine CV.cond ?_
    | refine CV.block ?_
    | refine CV.skip ?_
    | refine CV.exit ?_
    | refine CV.ret ?_
    | refine CV.scope ?_
    | refine CV.draw callees (by decide +kernel) ?_
    | refine CH.cons rfl ?_
    | refine CH.nil ?_
    | refine CO.consG rfl ?_
    | refine CH.consG rfl ?_
    | refine CG.cons rfl ?_
    | refine CR.cons ?_
    | refine CR.nil ?_
    | refine CG.nil ?_
    | refine CG.consG rfl ?_
    | refine ⟨(rfl : plain _ = true), ?_⟩
    | refine ⟨(rfl : nilOk _ = some _), ?_⟩
    | refine ⟨_, ints_len (by assumption), ?_⟩
    | refine ⟨_, ints_addr (by assumption) (by omega) (by omega), ?_⟩
    | refine ⟨_, ints_load (by assumption) (by omega) (by omega), ?_⟩
    | refine ⟨(⟨by omega, by omega⟩ : inI64 _), ?_⟩
    | refine ⟨_, fun tm ha => step1_max rfl (ev_tmp ha rfl) (ev_tmp ha rfl), ?_⟩
    | refine ⟨_, fun tm ha => step1_min rfl (ev_tmp ha rfl) (ev_tmp ha rfl), ?_⟩
    | (refine ⟨fun _ => ?_, fun _ => ?_⟩ <;> first | (exfalso; omega) | skip)
    | fail
  refine (contains_spec hB hu (by omega)).mono ?_
  rintro r H1 ⟨rfl, rfl⟩
  by_cases hm : -1 ∈ ws
  · rw [decide_eq_true hm]
    repeat' first
      | refine CO.cons rfl ?_
      | refine CO.nil ?_
      | refine CV.seq ?_
      | refine CV.region callees ?_
      | refine CV.cond ?_
      | refine CV.block ?_
      | refine CV.skip ?_
      | refine CV.exit ?_
      | refine CV.ret ?_
      | refine CV.scope ?_
      | refine CV.draw callees (by decide +kernel) ?_
      | refine CH.cons rfl ?_
      | refine CH.nil ?_
      | refine CO.consG rfl ?_
      | refine CH.consG rfl ?_
      | refine CG.cons rfl ?_
      | refine CR.cons ?_
      | refine CR.nil ?_
      | refine CG.nil ?_
      | refine CG.consG rfl ?_
      | refine ⟨(rfl : plain _ = true), ?_⟩
      | refine ⟨(rfl : nilOk _ = some _), ?_⟩
      | refine ⟨_, ints_len (by assumption), ?_⟩
      | refine ⟨_, ints_addr (by assumption) (by omega) (by omega), ?_⟩
      | refine ⟨_, ints_load (by assumption) (by omega) (by omega), ?_⟩
      | refine ⟨(⟨by omega, by omega⟩ : inI64 _), ?_⟩
      | refine ⟨_, fun tm ha => step1_max rfl (ev_tmp ha rfl) (ev_tmp ha rfl), ?_⟩
      | refine ⟨_, fun tm ha => step1_min rfl (ev_tmp ha rfl) (ev_tmp ha rfl), ?_⟩
      | (refine ⟨fun _ => ?_, fun _ => ?_⟩ <;> first | (exfalso; omega) | skip)
      | fail
    exact ⟨rfl, ⟨0, rfl, .inl ⟨hm, rfl⟩, by omega, by omega⟩, Keep.refl _⟩
  rw [decide_eq_false hm]
  repeat' first
    | refine CO.cons rfl ?_
    | refine CO.nil ?_
    | refine CV.seq ?_
    | refine CV.region callees ?_
    | refine CV.cond ?_
    | refine CV.block ?_
    | refine CV.skip ?_
    | refine CV.exit ?_
    | refine CV.ret ?_
    | refine CV.scope ?_
    | refine CV.draw callees (by decide +kernel) ?_
    | refine CH.cons rfl ?_
    | refine CH.nil ?_
    | refine CO.consG rfl ?_
    | refine CH.consG rfl ?_
    | refine CG.cons rfl ?_
    | refine CR.cons ?_
    | refine CR.nil ?_
    | refine CG.nil ?_
    | refine CG.consG rfl ?_
    | refine ⟨(rfl : plain _ = true), ?_⟩
    | refine ⟨(rfl : nilOk _ = some _), ?_⟩
    | refine ⟨_, ints_len (by assumption), ?_⟩
    | refine ⟨_, ints_addr (by assumption) (by omega) (by omega), ?_⟩
    | refine ⟨_, ints_load (by assumption) (by omega) (by omega), ?_⟩
    | refine ⟨(⟨by omega, by omega⟩ : inI64 _), ?_⟩
    | refine ⟨_, fun tm ha => step1_max rfl (ev_tmp ha rfl) (ev_tmp ha rfl), ?_⟩
    | refine ⟨_, fun tm ha => step1_min rfl (ev_tmp ha rfl) (ev_tmp ha rfl), ?_⟩
    | (refine ⟨fun _ => ?_, fun _ => ?_⟩ <;> first | (exfalso; omega) | skip)
    | fail
  refine (of_spec hB hu).mono ?_
  rintro r H2 ⟨hof, k2⟩
  rw [OfR, if_neg (by omega), if_neg (by omega)] at hof
  obtain ⟨q, rfl, hq⟩ := hof
  have hB2 := Nat.le_trans hB k2.1
  have hv2 : Ints H2 v ts := Row.keep hv k2
  have lq : (num ws []).length = ws.length := num_length _ _
  repeat' first
    | refine CO.cons rfl ?_
    | refine CO.nil ?_
    | refine CV.seq ?_
    | refine CV.region callees ?_
    | refine CV.cond ?_
    | refine CV.block ?_
    | refine CV.skip ?_
    | refine CV.exit ?_
    | refine CV.ret ?_
    | refine CV.scope ?_
    | refine CV.draw callees (by decide +kernel) ?_
    | refine CH.cons rfl ?_
    | refine CH.nil ?_
    | refine CO.consG rfl ?_
    | refine CH.consG rfl ?_
    | refine CG.cons rfl ?_
    | refine CR.cons ?_
    | refine CR.nil ?_
    | refine CG.nil ?_
    | refine CG.consG rfl ?_
    | refine ⟨(rfl : plain _ = true), ?_⟩
    | refine ⟨(rfl : nilOk _ = some _), ?_⟩
    | refine ⟨_, ints_len (by assumption), ?_⟩
    | refine ⟨_, ints_addr (by assumption) (by omega) (by omega), ?_⟩
    | refine ⟨_, ints_load (by assumption) (by omega) (by omega), ?_⟩
    | refine ⟨(⟨by omega, by omega⟩ : inI64 _), ?_⟩
    | refine ⟨_, fun tm ha => step1_max rfl (ev_tmp ha rfl) (ev_tmp ha rfl), ?_⟩
    | refine ⟨_, fun tm ha => step1_min rfl (ev_tmp ha rfl) (ev_tmp ha rfl), ?_⟩
    | (refine ⟨fun _ => ?_, fun _ => ?_⟩ <;> first | (exfalso; omega) | skip)
    | fail
  refine (moves_spec hB2 hq.row hv2 (check_of (by omega) (by omega)) ht (by omega)).mono ?_
  rintro r H3 ⟨⟨m, rfl, hm3⟩, k3⟩
  have hst := hm3.stay
  have hle := hst.le (by omega)
  repeat' first
    | refine CO.cons rfl ?_
    | refine CO.nil ?_
    | refine CV.seq ?_
    | refine CV.region callees ?_
    | refine CV.cond ?_
    | refine CV.block ?_
    | refine CV.skip ?_
    | refine CV.exit ?_
    | refine CV.ret ?_
    | refine CV.scope ?_
    | refine CV.draw callees (by decide +kernel) ?_
    | refine CH.cons rfl ?_
    | refine CH.nil ?_
    | refine CO.consG rfl ?_
    | refine CH.consG rfl ?_
    | refine CG.cons rfl ?_
    | refine CR.cons ?_
    | refine CR.nil ?_
    | refine CG.nil ?_
    | refine CG.consG rfl ?_
    | refine ⟨(rfl : plain _ = true), ?_⟩
    | refine ⟨(rfl : nilOk _ = some _), ?_⟩
    | refine ⟨_, ints_len (by assumption), ?_⟩
    | refine ⟨_, ints_addr (by assumption) (by omega) (by omega), ?_⟩
    | refine ⟨_, ints_load (by assumption) (by omega) (by omega), ?_⟩
    | refine ⟨(⟨by omega, by omega⟩ : inI64 _), ?_⟩
    | refine ⟨_, fun tm ha => step1_max rfl (ev_tmp ha rfl) (ev_tmp ha rfl), ?_⟩
    | refine ⟨_, fun tm ha => step1_min rfl (ev_tmp ha rfl) (ev_tmp ha rfl), ?_⟩
    | refine ⟨_, fun tm ha => step1_max rfl (ev_tmp ha rfl) rfl, ?_⟩
    | (refine ⟨fun _ => ?_, fun _ => ?_⟩ <;> first | (exfalso; omega) | skip)
    | fail
  refine ⟨rfl, ⟨_, rfl, .inr ⟨hm, m, hst, by rw [lq]⟩, by omega, by omega⟩, k2.trans k3⟩
end Go.Proofs.Ytlpkbcgdcimglaa.Sc

namespace Go.Proofs.Ytlpkbcgdcimglaa.Sc
open Go.AI
/-- A score. -/
abbrev Xv (p k w r n o s h : Int) : Value := .agg #[.int .i64 p, .int .i64 k, .int .i64 w, .int .i64 r, .int .i64 n, .int .i64 o, .int .i64 s, .int .i64 h]
abbrev Xl (p k w r n o s h : Int) : List Value := [.int .i64 p, .int .i64 k, .int .i64 w, .int .i64 r, .int .i64 n, .int .i64 o, .int .i64 s, .int .i64 h]
abbrev Xc (p k w r n o s h : Int) : AObj := .cells (Xl p k w r n o s h) 82 1
theorem zeroX : zeroCells Try.prog 82 = some (Xl 0 0 0 0 0 0 0 0) := by kernel_rfl
theorem allocX {H : Heap} : sAlloc Try.prog H 82 = some (.pointer (some ⟨H.n, 0, none⟩), H.new (Xc 0 0 0 0 0 0 0 0), H.n) := alloc_of zeroX
theorem buildX {n h : Int} : abuild Try.prog 82 [(4, .int .i64 n), (7, .int .i64 h)] = some (Xv 0 0 0 0 n 0 0 h) := by kernel_rfl
theorem foX0 : fieldOff Try.prog 82 0 = some (0, 1) := by kernel_rfl
theorem foX1 : fieldOff Try.prog 82 1 = some (1, 1) := by kernel_rfl
theorem foX2 : fieldOff Try.prog 82 2 = some (2, 1) := by kernel_rfl
theorem foX3 : fieldOff Try.prog 82 3 = some (3, 1) := by kernel_rfl
theorem foX4 : fieldOff Try.prog 82 4 = some (4, 1) := by kernel_rfl
theorem foX5 : fieldOff Try.prog 82 5 = some (5, 1) := by kernel_rfl
theorem foX6 : fieldOff Try.prog 82 6 = some (6, 1) := by kernel_rfl
theorem foX7 : fieldOff Try.prog 82 7 = some (7, 1) := by kernel_rfl
theorem foX (i : Nat) (hi : i < 8) : fieldOff Try.prog 82 i = some (i, 1) := by
  match i, hi with
  | 0, _ => exact foX0
  | 1, _ => exact foX1
  | 2, _ => exact foX2
  | 3, _ => exact foX3
  | 4, _ => exact foX4
  | 5, _ => exact foX5
  | 6, _ => exact foX6
  | 7, _ => exact foX7
theorem addrX {b i : Nat} (hi : i < 8) : afieldAddr Try.prog 82 (.pointer (some ⟨b, 0, none⟩)) i = some (.pointer (some ⟨b, i, none⟩)) := by
  rw [field_addr (foX i hi) (by decide), Nat.zero_add]
theorem agX : isAggB Try.prog 82 = some true := by kernel_rfl
theorem szX : sizeB Try.prog 82 = some 8 := by kernel_rfl
theorem loadX {H : Heap} {b : Nat} {p k w r n o s h : Int} (hg : H.get b = some (Xc p k w r n o s h)) : aload Try.prog 82 H (.pointer (some ⟨b, 0, none⟩)) = some (Xv p k w r n o s h) := by
  simp [aload, hg, agX, szX]
theorem storeX {H : Heap} {b : Nat} {p k w r n o s h p' k' w' r' n' o' s' h' : Int} (hg : H.get b = some (Xc p k w r n o s h)) : astore Try.prog 82 H (Xv p' k' w' r' n' o' s' h') (.pointer (some ⟨b, 0, none⟩)) = some (H.set b (Xc p' k' w' r' n' o' s' h'), b) :=
  store_all (vs := Xl p' k' w' r' n' o' s' h') hg rfl szX rfl
/-- One field of a score. -/
theorem putX {H : Heap} {K : Heap → Prop} {B b i : Nat} {y : Int} {cs : List Value} (hB : B ≤ b) (hg : H.get b = some (.cells cs 82 1)) (hi : i < cs.length) (hk : ∀ H', H'.get b = some (.cells (cs.set i (.int .i64 y)) 82 1) → (∀ c, c ≠ b → H'.get c = H.get c) → H'.n = H.n → K H') :
    ∃ H' c, astore Try.prog 3 H (.int .i64 y) (.pointer (some ⟨b, i, none⟩)) = some (H', c) ∧ B ≤ c ∧ K H' :=
  ⟨_, _, store_row sz3 hg hi rfl, hB, hk _ (Heap.get_set_eq _ _ _) (fun c hc => Heap.get_set_ne _ _ (Ne.symm hc)) rfl⟩
theorem mulB {x : Int} {k m : Nat} (h0 : 0 ≤ x) (h1 : x ≤ 1000) (hk : k ≤ m) : 0 ≤ x * (k : Int) ∧ x * (k : Int) ≤ 1000 * (m : Int) :=
  ⟨Int.mul_nonneg h0 (by omega), Int.mul_le_mul h1 (by omega) (by omega) (by omega)⟩
def whN (ts ws : List Int) : Nat := if pkN ts ws ws.length = ws.length then 1 else 0
def ptsN (a c w n l : Int) (ts ws : List Int) : Int :=
  a * (pkN ts ws ws.length : Int) + c * (prN ts ws ws.length : Int) + n * (hdN ts ws ws.length : Int) + w * (whN ts ws : Int) - l * (wrN ts ws ws.length : Int)
/-- The score of a valid answer, but for the honour. -/
abbrev XM (a c w n l : Int) (ts ws : List Int) (ho : Int) : Value :=
  Xv (ptsN a c w n l ts ws) (pkN ts ws ws.length : Int) (wrN ts ws ws.length : Int) (prN ts ws ws.length : Int) (hdN ts ws ws.length : Int) (whN ts ws : Int) (stN ts ws ws.length : Int) ho
set_option maxHeartbeats 4000000 in
set_option maxRecDepth 100000 in
theorem marked_spec {B : Nat} {H : Heap} {a c w n l : Int} {k v u : Value} {ks ts ws : List Int} (hB : B ≤ H.n) (hk : Ints H k ks) (hv : Ints H v ts) (hu : Ints H u ws) (hp : ptsOk a c w n l) (ht : check ts = 0) (hl : ws.length = ts.length) :
    CallB Try.prog B 111 [Sv a c w n l k, v, u] H (fun r H' => (∃ ho, r = XM a c w n l ts ws ho ∧ Hon ts ws ho ∧ 0 ≤ ho ∧ ho ≤ 3) ∧ Keep H H') := by
  have h9 := check_len ht
  refine CV.enter callees false rfl Try.func111 rfl (by kernel_rfl) (Nat.le_of_ble_eq_true rfl) hB ?_
  repeat' first
    | refine CO.cons rfl ?_
    | refine CO.nil ?_
    | refine CV.seq ?_
    | refine CV.region callees ?_
    | refine CV.cond ?_
    | refine CV.block ?_
    | refine CV.skip ?_
    | refine CV.exit ?_
    | refine CV.ret ?_
    | refine CV.scope ?_
    | refine CV.draw callees (by decide +kernel) ?_
    | refine CH.cons rfl ?_
    | refine CH.nil ?_
    | refine CO.consG rfl ?_
    | refine CH.consG rfl ?_
    | refine CG.cons rfl ?_
    | refine CR.cons ?_
    | refine CR.nil ?_
    | refine CG.nil ?_
    | refine CG.consG rfl ?_
    | refine ⟨(rfl : plain _ = true), ?_⟩
    | refine ⟨(rfl : nilOk _ = some _), ?_⟩
    | refine ⟨_, ints_len (by assumption), ?_⟩
    | refine ⟨_, ints_addr (by assumption) (by omega) (by omega), ?_⟩
    | refine ⟨_, ints_load (by assumption) (by omega) (by omega), ?_⟩
    | refine ⟨(⟨by omega, by omega⟩ : inI64 _), ?_⟩
    | refine ⟨_, fun tm ha => step1_max rfl (ev_tmp ha rfl) (ev_tmp ha rfl), ?_⟩
    | refine ⟨_, fun tm ha => step1_min rfl (ev_tmp ha rfl) (ev_tmp ha rfl), ?_⟩
    | (refine ⟨(rfl : notTuple _ = true), ?_⟩)
    | (refine ⟨fun _ => ?_, fun _ => ?_⟩ <;> first | (exfalso; omega) | skip)
    | fail
  rw [alloc_sc hk.oneC.2.2]
  generalize hs1 : H.new (Sc a c w n l k) = Ha
  have hg1 := new_get hs1
  have k1 := new_keep hs1
  have n1 := new_n hs1
  repeat' first
    | refine CO.cons rfl ?_
    | refine CO.nil ?_
    | refine CV.seq ?_
    | refine CV.region callees ?_
    | refine CV.cond ?_
    | refine CV.block ?_
    | refine CV.skip ?_
    | refine CV.exit ?_
    | refine CV.ret ?_
    | refine CV.scope ?_
    | refine CV.draw callees (by decide +kernel) ?_
    | refine CH.cons rfl ?_
    | refine CH.nil ?_
    | refine CO.consG rfl ?_
    | refine CH.consG rfl ?_
    | refine CG.cons rfl ?_
    | refine CR.cons ?_
    | refine CR.nil ?_
    | refine CG.nil ?_
    | refine CG.consG rfl ?_
    | refine ⟨(rfl : plain _ = true), ?_⟩
    | refine ⟨(rfl : nilOk _ = some _), ?_⟩
    | refine ⟨_, ints_len (by assumption), ?_⟩
    | refine ⟨_, ints_addr (by assumption) (by omega) (by omega), ?_⟩
    | refine ⟨_, ints_load (by assumption) (by omega) (by omega), ?_⟩
    | refine ⟨(⟨by omega, by omega⟩ : inI64 _), ?_⟩
    | refine ⟨_, fun tm ha => step1_max rfl (ev_tmp ha rfl) (ev_tmp ha rfl), ?_⟩
    | refine ⟨_, fun tm ha => step1_min rfl (ev_tmp ha rfl) (ev_tmp ha rfl), ?_⟩
    | (refine ⟨_, _, allocX, ?_⟩)
    | (refine ⟨fun _ => ?_, fun _ => ?_⟩ <;> first | (exfalso; omega) | skip)
    | fail
  generalize hs2 : Ha.new (Xc 0 0 0 0 0 0 0 0) = H1
  have hgr := new_get hs2
  have k2 := new_keep hs2
  have n2 := new_n hs2
  rw [n1] at hgr n2 ⊢
  have hgs : H1.get H.n = some (Sc a c w n l k) := by rw [k2.2 _ (by omega)]; exact hg1
  have kk1 : Keep H H1 := k1.trans k2
  have hB1 : B ≤ H1.n := by omega
  have hv1 : Ints H1 v ts := Row.keep hv kk1
  have hu1 : Ints H1 u ws := Row.keep hu kk1
  repeat' first
    | refine CO.cons rfl ?_
    | refine CO.nil ?_
    | refine CV.seq ?_
    | refine CV.region callees ?_
    | refine CV.cond ?_
    | refine CV.block ?_
    | refine CV.skip ?_
    | refine CV.exit ?_
    | refine CV.ret ?_
    | refine CV.scope ?_
    | refine CV.draw callees (by decide +kernel) ?_
    | refine CH.cons rfl ?_
    | refine CH.nil ?_
    | refine CO.consG rfl ?_
    | refine CH.consG rfl ?_
    | refine CG.cons rfl ?_
    | refine CR.cons ?_
    | refine CR.nil ?_
    | refine CG.nil ?_
    | refine CG.consG rfl ?_
    | refine ⟨(rfl : plain _ = true), ?_⟩
    | refine ⟨(rfl : nilOk _ = some _), ?_⟩
    | refine ⟨_, ints_len (by assumption), ?_⟩
    | refine ⟨_, ints_addr (by assumption) (by omega) (by omega), ?_⟩
    | refine ⟨_, ints_load (by assumption) (by omega) (by omega), ?_⟩
    | refine ⟨(⟨by omega, by omega⟩ : inI64 _), ?_⟩
    | refine ⟨_, fun tm ha => step1_max rfl (ev_tmp ha rfl) (ev_tmp ha rfl), ?_⟩
    | refine ⟨_, fun tm ha => step1_min rfl (ev_tmp ha rfl) (ev_tmp ha rfl), ?_⟩
    | (refine ⟨fun _ => ?_, fun _ => ?_⟩ <;> first | (exfalso; omega) | skip)
    | fail
  refine (heard_spec hB1 hv1 hu1 hl (by omega)).mono ?_
  rintro r H1 ⟨rfl, rfl⟩
  repeat' first
    | refine CO.cons rfl ?_
    | refine CO.nil ?_
    | refine CV.seq ?_
    | refine CV.region callees ?_
    | refine CV.cond ?_
    | refine CV.block ?_
    | refine CV.skip ?_
    | refine CV.exit ?_
    | refine CV.ret ?_
    | refine CV.scope ?_
    | refine CV.draw callees (by decide +kernel) ?_
    | refine CH.cons rfl ?_
    | refine CH.nil ?_
    | refine CO.consG rfl ?_
    | refine CH.consG rfl ?_
    | refine CG.cons rfl ?_
    | refine CR.cons ?_
    | refine CR.nil ?_
    | refine CG.nil ?_
    | refine CG.consG rfl ?_
    | refine ⟨(rfl : plain _ = true), ?_⟩
    | refine ⟨(rfl : nilOk _ = some _), ?_⟩
    | refine ⟨_, ints_len (by assumption), ?_⟩
    | refine ⟨_, ints_addr (by assumption) (by omega) (by omega), ?_⟩
    | refine ⟨_, ints_load (by assumption) (by omega) (by omega), ?_⟩
    | refine ⟨(⟨by omega, by omega⟩ : inI64 _), ?_⟩
    | refine ⟨_, fun tm ha => step1_max rfl (ev_tmp ha rfl) (ev_tmp ha rfl), ?_⟩
    | refine ⟨_, fun tm ha => step1_min rfl (ev_tmp ha rfl) (ev_tmp ha rfl), ?_⟩
    | (refine ⟨fun _ => ?_, fun _ => ?_⟩ <;> first | (exfalso; omega) | skip)
    | fail
  refine (honour_spec hB1 hv1 hu1 ht hl).mono ?_
  rintro r H3 ⟨⟨ho, rfl, hon, ho0, ho3⟩, k3⟩
  have hB3 := Nat.le_trans hB1 k3.1
  repeat' first
    | refine CO.cons rfl ?_
    | refine CO.nil ?_
    | refine CV.seq ?_
    | refine CV.region callees ?_
    | refine CV.cond ?_
    | refine CV.block ?_
    | refine CV.skip ?_
    | refine CV.exit ?_
    | refine CV.ret ?_
    | refine CV.scope ?_
    | refine CV.draw callees (by decide +kernel) ?_
    | refine CH.cons rfl ?_
    | refine CH.nil ?_
    | refine CO.consG rfl ?_
    | refine CH.consG rfl ?_
    | refine CG.cons rfl ?_
    | refine CR.cons ?_
    | refine CR.nil ?_
    | refine CG.nil ?_
    | refine CG.consG rfl ?_
    | refine ⟨(rfl : plain _ = true), ?_⟩
    | refine ⟨(rfl : nilOk _ = some _), ?_⟩
    | refine ⟨_, ints_len (by assumption), ?_⟩
    | refine ⟨_, ints_addr (by assumption) (by omega) (by omega), ?_⟩
    | refine ⟨_, ints_load (by assumption) (by omega) (by omega), ?_⟩
    | refine ⟨(⟨by omega, by omega⟩ : inI64 _), ?_⟩
    | refine ⟨_, fun tm ha => step1_max rfl (ev_tmp ha rfl) (ev_tmp ha rfl), ?_⟩
    | refine ⟨_, fun tm ha => step1_min rfl (ev_tmp ha rfl) (ev_tmp ha rfl), ?_⟩
    | (refine ⟨_, buildX, ?_⟩)
    | (refine ⟨_, _, allocX, ?_⟩)
    | (refine ⟨fun _ => ?_, fun _ => ?_⟩ <;> first | (exfalso; omega) | skip)
    | fail
  generalize hs4 : H3.new (Xc 0 0 0 0 0 0 0 0) = H4
  have hg4 := new_get hs4
  have k4 := new_keep hs4
  obtain ⟨bx, hbx⟩ : ∃ bx, H3.n = bx := ⟨_, rfl⟩
  rw [hbx] at hg4 ⊢
  have n4 := new_n hs4
  have hb1 : H1.n ≤ bx := by rw [← hbx]; exact k3.1
  refine ⟨_, _, storeX hg4, by omega, ?_⟩
  generalize hs5 : H4.set bx (Xc 0 0 0 0 (hdN ts ws ws.length : Int) 0 0 ho) = H5
  have hg5 := set_get hs5
  have kk5 : Keep H1 H5 := keep_put (k3.trans k4) hb1 (set_old hs5) (set_n hs5)
  have hB5 := Nat.le_trans hB1 kk5.1
  have hu5 : Ints H5 u ws := Row.keep hu1 kk5
  repeat' first
    | refine CO.cons rfl ?_
    | refine CO.nil ?_
    | refine CV.seq ?_
    | refine CV.region callees ?_
    | refine CV.cond ?_
    | refine CV.block ?_
    | refine CV.skip ?_
    | refine CV.exit ?_
    | refine CV.ret ?_
    | refine CV.scope ?_
    | refine CV.draw callees (by decide +kernel) ?_
    | refine CH.cons rfl ?_
    | refine CH.nil ?_
    | refine CO.consG rfl ?_
    | refine CH.consG rfl ?_
    | refine CG.cons rfl ?_
    | refine CR.cons ?_
    | refine CR.nil ?_
    | refine CG.nil ?_
    | refine CG.consG rfl ?_
    | refine ⟨(rfl : plain _ = true), ?_⟩
    | refine ⟨(rfl : nilOk _ = some _), ?_⟩
    | refine ⟨_, ints_len (by assumption), ?_⟩
    | refine ⟨_, ints_addr (by assumption) (by omega) (by omega), ?_⟩
    | refine ⟨_, ints_load (by assumption) (by omega) (by omega), ?_⟩
    | refine ⟨(⟨by omega, by omega⟩ : inI64 _), ?_⟩
    | refine ⟨_, fun tm ha => step1_max rfl (ev_tmp ha rfl) (ev_tmp ha rfl), ?_⟩
    | refine ⟨_, fun tm ha => step1_min rfl (ev_tmp ha rfl) (ev_tmp ha rfl), ?_⟩
    | (refine ⟨fun _ => ?_, fun _ => ?_⟩ <;> first | (exfalso; omega) | skip)
    | fail
  refine CV.loopc ?_
  refine WCv.rounds callees false (α := Nat) (fun i => [(3, .pointer (some ⟨H.n, 0, none⟩)), (6, .pointer (some ⟨H.n + 1, 0, none⟩)), (7, .pointer (some ⟨bx, 0, none⟩)), (1, v), (2, u), (19, u), (20, .int .i64 ws.length), (21, .int .i64 i)]) (fun i Hz => i ≤ ws.length ∧ Keep H1 Hz ∧ Hz.get bx = some (Xc 0 (pkN ts ws i : Int) (wrN ts ws i : Int) (prN ts ws i : Int) (hdN ts ws ws.length : Int) 0 (stN ts ws i : Int) ho)) (fun i => ws.length - i) (0) (by repeat' first | exact trivial | refine ⟨rfl, ?_⟩ | refine ⟨slot_int (by (try simp only [Int.toNat_natCast]); omega), ?_⟩) ?_ ?_
  · exact ⟨by omega, kk5, hg5⟩
  rintro i Hx ⟨hi, kx, hgx⟩ hBx
  have hvx : Ints Hx v ts := Row.keep hv1 kx
  have hux : Ints Hx u ws := Row.keep hu1 kx
  have b1 := rw_le ts ws i i
  have b2 := pk_le ts ws i
  have b3 := st_le ts ws i
  have b4 := hd_le ts ws ws.length
  have b5 := pr_le ts ws i (by omega)
  by_cases hi2 : i < ws.length
  · have hxi : ws[(i : Int).toNat]! = ws[i]! := rfl
    repeat' first
      | refine CO.cons rfl ?_
      | refine CO.nil ?_
      | refine CV.seq ?_
      | refine CV.region callees ?_
      | refine CV.cond ?_
      | refine CV.block ?_
      | refine CV.skip ?_
      | refine CV.exit ?_
      | refine CV.ret ?_
      | refine CV.scope ?_
      | refine CV.draw callees (by decide +kernel) ?_
      | refine CH.cons rfl ?_
      | refine CH.nil ?_
      | refine CO.consG rfl ?_
      | refine CH.consG rfl ?_
      | refine CG.cons rfl ?_
      | refine CR.cons ?_
      | refine CR.nil ?_
      | refine CG.nil ?_
      | refine CG.consG rfl ?_
      | refine ⟨(rfl : plain _ = true), ?_⟩
      | refine ⟨(rfl : nilOk _ = some _), ?_⟩
      | refine ⟨_, ints_len (by assumption), ?_⟩
      | refine ⟨_, ints_addr (by assumption) (by omega) (by omega), ?_⟩
      | refine ⟨_, ints_load (by assumption) (by omega) (by omega), ?_⟩
      | refine ⟨(⟨by omega, by omega⟩ : inI64 _), ?_⟩
      | refine ⟨_, fun tm ha => step1_max rfl (ev_tmp ha rfl) (ev_tmp ha rfl), ?_⟩
      | refine ⟨_, fun tm ha => step1_min rfl (ev_tmp ha rfl) (ev_tmp ha rfl), ?_⟩
      | (refine ⟨fun _ => ?_, fun _ => ?_⟩ <;> first | (exfalso; omega) | skip)
      | fail
    rw [hxi]
    refine (written_spec hBx).mono ?_
    rintro r H6 ⟨rfl, rfl⟩
    by_cases hw : ws[i]! = -1
    · have hwt : wrt ws i = false := by rw [wrt_of]; exact decide_eq_false (fun h => h hw)
      have e1 : pkN ts ws (i + 1) = pkN ts ws i := by rw [pkN, hwt]; simp
      have e2 : wrN ts ws (i + 1) = wrN ts ws i := by rw [wrN, hwt]; simp
      have e3 : prN ts ws (i + 1) = prN ts ws i := by rw [prN, hwt]; simp
      have e4 : stN ts ws (i + 1) = stN ts ws i := by rw [stN, hwt]; simp
      rw [decide_eq_false (fun h => h hw)]
      repeat' first
        | refine CO.cons rfl ?_
        | refine CO.nil ?_
        | refine CV.seq ?_
        | refine CV.region callees ?_
        | refine CV.cond ?_
        | refine CV.block ?_
        | refine CV.skip ?_
        | refine CV.exit ?_
        | refine CV.ret ?_
        | refine CV.scope ?_
        | refine CV.draw callees (by decide +kernel) ?_
        | refine CH.cons rfl ?_
        | refine CH.nil ?_
        | refine CO.consG rfl ?_
        | refine CH.consG rfl ?_
        | refine CG.cons rfl ?_
        | refine CR.cons ?_
        | refine CR.nil ?_
        | refine CG.nil ?_
        | refine CG.consG rfl ?_
        | refine ⟨(rfl : plain _ = true), ?_⟩
        | refine ⟨(rfl : nilOk _ = some _), ?_⟩
        | refine ⟨_, ints_len (by assumption), ?_⟩
        | refine ⟨_, ints_addr (by assumption) (by omega) (by omega), ?_⟩
        | refine ⟨_, ints_load (by assumption) (by omega) (by omega), ?_⟩
        | refine ⟨(⟨by omega, by omega⟩ : inI64 _), ?_⟩
        | refine ⟨_, fun tm ha => step1_max rfl (ev_tmp ha rfl) (ev_tmp ha rfl), ?_⟩
        | refine ⟨_, fun tm ha => step1_min rfl (ev_tmp ha rfl) (ev_tmp ha rfl), ?_⟩
        | (refine ⟨fun _ => ?_, fun _ => ?_⟩ <;> first | (exfalso; omega) | skip)
        | fail
      refine ⟨(i + 1), (by repeat' first | exact trivial | refine ⟨rfl, ?_⟩ | refine ⟨slot_int (by (try simp only [Int.toNat_natCast]); omega), ?_⟩), (by (try dsimp only); omega), ?_⟩
      exact ⟨by omega, kx, by rw [e1, e2, e3, e4]; exact hgx⟩
    have hwt : wrt ws i = true := by rw [wrt_of]; exact decide_eq_true hw
    rw [decide_eq_true hw]
    repeat' first
      | refine CO.cons rfl ?_
      | refine CO.nil ?_
      | refine CV.seq ?_
      | refine CV.region callees ?_
      | refine CV.cond ?_
      | refine CV.block ?_
      | refine CV.skip ?_
      | refine CV.exit ?_
      | refine CV.ret ?_
      | refine CV.scope ?_
      | refine CV.draw callees (by decide +kernel) ?_
      | refine CH.cons rfl ?_
      | refine CH.nil ?_
      | refine CO.consG rfl ?_
      | refine CH.consG rfl ?_
      | refine CG.cons rfl ?_
      | refine CR.cons ?_
      | refine CR.nil ?_
      | refine CG.nil ?_
      | refine CG.consG rfl ?_
      | refine ⟨(rfl : plain _ = true), ?_⟩
      | refine ⟨(rfl : nilOk _ = some _), ?_⟩
      | refine ⟨_, ints_len (by assumption), ?_⟩
      | refine ⟨_, ints_addr (by assumption) (by omega) (by omega), ?_⟩
      | refine ⟨_, ints_load (by assumption) (by omega) (by omega), ?_⟩
      | refine ⟨(⟨by omega, by omega⟩ : inI64 _), ?_⟩
      | refine ⟨_, fun tm ha => step1_max rfl (ev_tmp ha rfl) (ev_tmp ha rfl), ?_⟩
      | refine ⟨_, fun tm ha => step1_min rfl (ev_tmp ha rfl) (ev_tmp ha rfl), ?_⟩
      | (refine ⟨fun _ => ?_, fun _ => ?_⟩ <;> first | (exfalso; omega) | skip)
      | fail
    refine (pairs_spec hBx hvx hux hl (by omega) hi2).mono ?_
    rintro r H7 ⟨rfl, rfl⟩
    have e3 : prN ts ws (i + 1) = prN ts ws i + rtN ts ws i i := by rw [prN, hwt]; simp
    repeat' first
      | refine CO.cons rfl ?_
      | refine CO.nil ?_
      | refine CV.seq ?_
      | refine CV.region callees ?_
      | refine CV.cond ?_
      | refine CV.block ?_
      | refine CV.skip ?_
      | refine CV.exit ?_
      | refine CV.ret ?_
      | refine CV.scope ?_
      | refine CV.draw callees (by decide +kernel) ?_
      | refine CH.cons rfl ?_
      | refine CH.nil ?_
      | refine CO.consG rfl ?_
      | refine CH.consG rfl ?_
      | refine CG.cons rfl ?_
      | refine CR.cons ?_
      | refine CR.nil ?_
      | refine CG.nil ?_
      | refine CG.consG rfl ?_
      | refine ⟨(rfl : plain _ = true), ?_⟩
      | refine ⟨(rfl : nilOk _ = some _), ?_⟩
      | refine ⟨_, ints_len (by assumption), ?_⟩
      | refine ⟨_, ints_addr (by assumption) (by omega) (by omega), ?_⟩
      | refine ⟨_, ints_load (by assumption) (by omega) (by omega), ?_⟩
      | refine ⟨(⟨by omega, by omega⟩ : inI64 _), ?_⟩
      | refine ⟨_, fun tm ha => step1_max rfl (ev_tmp ha rfl) (ev_tmp ha rfl), ?_⟩
      | refine ⟨_, fun tm ha => step1_min rfl (ev_tmp ha rfl) (ev_tmp ha rfl), ?_⟩
      | (refine ⟨_, addrX (by decide), ?_⟩)
      | (refine ⟨_, cell_load ag3 hgx rfl, ?_⟩)
      | (refine putX (by omega) hgx (Nat.le_of_ble_eq_true rfl) ?_)
      | (refine ⟨fun _ => ?_, fun _ => ?_⟩ <;> first | (exfalso; omega) | skip)
      | fail
    intro Hp hgp hop hnp
    have kp := keep_put kx hb1 hop hnp
    have hBp : B ≤ Hp.n := by omega
    replace hgp : Hp.get bx = some (Xc 0 (pkN ts ws i : Int) (wrN ts ws i : Int) (prN ts ws (i + 1) : Int) (hdN ts ws ws.length : Int) 0 (stN ts ws i : Int) ho) := by rw [e3, Int.natCast_add]; exact hgp
    by_cases hwg : wgN ts ws i i = 0
    · have e1 : pkN ts ws (i + 1) = pkN ts ws i + 1 := by rw [pkN, hwt, hwg]; simp
      have e2 : wrN ts ws (i + 1) = wrN ts ws i := by rw [wrN, hwt, hwg]; simp
      repeat' first
        | refine CO.cons rfl ?_
        | refine CO.nil ?_
        | refine CV.seq ?_
        | refine CV.region callees ?_
        | refine CV.cond ?_
        | refine CV.block ?_
        | refine CV.skip ?_
        | refine CV.exit ?_
        | refine CV.ret ?_
        | refine CV.scope ?_
        | refine CV.draw callees (by decide +kernel) ?_
        | refine CH.cons rfl ?_
        | refine CH.nil ?_
        | refine CO.consG rfl ?_
        | refine CH.consG rfl ?_
        | refine CG.cons rfl ?_
        | refine CR.cons ?_
        | refine CR.nil ?_
        | refine CG.nil ?_
        | refine CG.consG rfl ?_
        | refine ⟨(rfl : plain _ = true), ?_⟩
        | refine ⟨(rfl : nilOk _ = some _), ?_⟩
        | refine ⟨_, ints_len (by assumption), ?_⟩
        | refine ⟨_, ints_addr (by assumption) (by omega) (by omega), ?_⟩
        | refine ⟨_, ints_load (by assumption) (by omega) (by omega), ?_⟩
        | refine ⟨(⟨by omega, by omega⟩ : inI64 _), ?_⟩
        | refine ⟨_, fun tm ha => step1_max rfl (ev_tmp ha rfl) (ev_tmp ha rfl), ?_⟩
        | refine ⟨_, fun tm ha => step1_min rfl (ev_tmp ha rfl) (ev_tmp ha rfl), ?_⟩
        | (refine ⟨_, addrX (by decide), ?_⟩)
        | (refine ⟨_, cell_load ag3 hgp rfl, ?_⟩)
        | (refine putX (by omega) hgp (Nat.le_of_ble_eq_true rfl) ?_)
        | (refine ⟨fun _ => ?_, fun _ => ?_⟩ <;> first | (exfalso; omega) | skip)
        | fail
      intro Hq hgq hoq hnq
      have kq := keep_put kp hb1 hoq hnq
      replace hgq : Hq.get bx = some (Xc 0 (pkN ts ws (i + 1) : Int) (wrN ts ws i : Int) (prN ts ws (i + 1) : Int) (hdN ts ws ws.length : Int) 0 (stN ts ws i : Int) ho) := by rw [e1, Int.natCast_add]; exact hgq
      by_cases hst : stN ts ws i = i
      · have e4 : stN ts ws (i + 1) = stN ts ws i + 1 := by rw [stN, hwt, hwg]; simp [hst]
        repeat' first
          | refine CO.cons rfl ?_
          | refine CO.nil ?_
          | refine CV.seq ?_
          | refine CV.region callees ?_
          | refine CV.cond ?_
          | refine CV.block ?_
          | refine CV.skip ?_
          | refine CV.exit ?_
          | refine CV.ret ?_
          | refine CV.scope ?_
          | refine CV.draw callees (by decide +kernel) ?_
          | refine CH.cons rfl ?_
          | refine CH.nil ?_
          | refine CO.consG rfl ?_
          | refine CH.consG rfl ?_
          | refine CG.cons rfl ?_
          | refine CR.cons ?_
          | refine CR.nil ?_
          | refine CG.nil ?_
          | refine CG.consG rfl ?_
          | refine ⟨(rfl : plain _ = true), ?_⟩
          | refine ⟨(rfl : nilOk _ = some _), ?_⟩
          | refine ⟨_, ints_len (by assumption), ?_⟩
          | refine ⟨_, ints_addr (by assumption) (by omega) (by omega), ?_⟩
          | refine ⟨_, ints_load (by assumption) (by omega) (by omega), ?_⟩
          | refine ⟨(⟨by omega, by omega⟩ : inI64 _), ?_⟩
          | refine ⟨_, fun tm ha => step1_max rfl (ev_tmp ha rfl) (ev_tmp ha rfl), ?_⟩
          | refine ⟨_, fun tm ha => step1_min rfl (ev_tmp ha rfl) (ev_tmp ha rfl), ?_⟩
          | (refine ⟨_, addrX (by decide), ?_⟩)
          | (refine ⟨_, cell_load ag3 hgq rfl, ?_⟩)
          | (refine putX (by omega) hgq (Nat.le_of_ble_eq_true rfl) ?_)
          | (refine ⟨fun _ => ?_, fun _ => ?_⟩ <;> first | (exfalso; omega) | skip)
          | fail
        intro Ht hgt hot hnt
        have kt := keep_put kq hb1 hot hnt
        repeat' first
          | refine CO.cons rfl ?_
          | refine CO.nil ?_
          | refine CV.seq ?_
          | refine CV.region callees ?_
          | refine CV.cond ?_
          | refine CV.block ?_
          | refine CV.skip ?_
          | refine CV.exit ?_
          | refine CV.ret ?_
          | refine CV.scope ?_
          | refine CV.draw callees (by decide +kernel) ?_
          | refine CH.cons rfl ?_
          | refine CH.nil ?_
          | refine CO.consG rfl ?_
          | refine CH.consG rfl ?_
          | refine CG.cons rfl ?_
          | refine CR.cons ?_
          | refine CR.nil ?_
          | refine CG.nil ?_
          | refine CG.consG rfl ?_
          | refine ⟨(rfl : plain _ = true), ?_⟩
          | refine ⟨(rfl : nilOk _ = some _), ?_⟩
          | refine ⟨_, ints_len (by assumption), ?_⟩
          | refine ⟨_, ints_addr (by assumption) (by omega) (by omega), ?_⟩
          | refine ⟨_, ints_load (by assumption) (by omega) (by omega), ?_⟩
          | refine ⟨(⟨by omega, by omega⟩ : inI64 _), ?_⟩
          | refine ⟨_, fun tm ha => step1_max rfl (ev_tmp ha rfl) (ev_tmp ha rfl), ?_⟩
          | refine ⟨_, fun tm ha => step1_min rfl (ev_tmp ha rfl) (ev_tmp ha rfl), ?_⟩
          | (refine ⟨fun _ => ?_, fun _ => ?_⟩ <;> first | (exfalso; omega) | skip)
          | fail
        refine ⟨(i + 1), (by repeat' first | exact trivial | refine ⟨rfl, ?_⟩ | refine ⟨slot_int (by (try simp only [Int.toNat_natCast]); omega), ?_⟩), (by (try dsimp only); omega), ?_⟩
        exact ⟨by omega, kt, by rw [e2, e4, Int.natCast_add]; exact hgt⟩
      · have e4 : stN ts ws (i + 1) = stN ts ws i := by rw [stN, hwt, hwg]; simp [hst]
        repeat' first
          | refine CO.cons rfl ?_
          | refine CO.nil ?_
          | refine CV.seq ?_
          | refine CV.region callees ?_
          | refine CV.cond ?_
          | refine CV.block ?_
          | refine CV.skip ?_
          | refine CV.exit ?_
          | refine CV.ret ?_
          | refine CV.scope ?_
          | refine CV.draw callees (by decide +kernel) ?_
          | refine CH.cons rfl ?_
          | refine CH.nil ?_
          | refine CO.consG rfl ?_
          | refine CH.consG rfl ?_
          | refine CG.cons rfl ?_
          | refine CR.cons ?_
          | refine CR.nil ?_
          | refine CG.nil ?_
          | refine CG.consG rfl ?_
          | refine ⟨(rfl : plain _ = true), ?_⟩
          | refine ⟨(rfl : nilOk _ = some _), ?_⟩
          | refine ⟨_, ints_len (by assumption), ?_⟩
          | refine ⟨_, ints_addr (by assumption) (by omega) (by omega), ?_⟩
          | refine ⟨_, ints_load (by assumption) (by omega) (by omega), ?_⟩
          | refine ⟨(⟨by omega, by omega⟩ : inI64 _), ?_⟩
          | refine ⟨_, fun tm ha => step1_max rfl (ev_tmp ha rfl) (ev_tmp ha rfl), ?_⟩
          | refine ⟨_, fun tm ha => step1_min rfl (ev_tmp ha rfl) (ev_tmp ha rfl), ?_⟩
          | (refine ⟨_, addrX (by decide), ?_⟩)
          | (refine ⟨_, cell_load ag3 hgq rfl, ?_⟩)
          | (refine ⟨fun _ => ?_, fun _ => ?_⟩ <;> first | (exfalso; omega) | skip)
          | fail
        refine ⟨(i + 1), (by repeat' first | exact trivial | refine ⟨rfl, ?_⟩ | refine ⟨slot_int (by (try simp only [Int.toNat_natCast]); omega), ?_⟩), (by (try dsimp only); omega), ?_⟩
        exact ⟨by omega, kq, by rw [e2, e4]; exact hgq⟩
    · have e1 : pkN ts ws (i + 1) = pkN ts ws i := by rw [pkN, hwt]; simp [hwg]
      have e2 : wrN ts ws (i + 1) = wrN ts ws i + 1 := by rw [wrN, hwt]; simp [hwg]
      have e4 : stN ts ws (i + 1) = stN ts ws i := by rw [stN, hwt]; simp [hwg]
      repeat' first
        | refine CO.cons rfl ?_
        | refine CO.nil ?_
        | refine CV.seq ?_
        | refine CV.region callees ?_
        | refine CV.cond ?_
        | refine CV.block ?_
        | refine CV.skip ?_
        | refine CV.exit ?_
        | refine CV.ret ?_
        | refine CV.scope ?_
        | refine CV.draw callees (by decide +kernel) ?_
        | refine CH.cons rfl ?_
        | refine CH.nil ?_
        | refine CO.consG rfl ?_
        | refine CH.consG rfl ?_
        | refine CG.cons rfl ?_
        | refine CR.cons ?_
        | refine CR.nil ?_
        | refine CG.nil ?_
        | refine CG.consG rfl ?_
        | refine ⟨(rfl : plain _ = true), ?_⟩
        | refine ⟨(rfl : nilOk _ = some _), ?_⟩
        | refine ⟨_, ints_len (by assumption), ?_⟩
        | refine ⟨_, ints_addr (by assumption) (by omega) (by omega), ?_⟩
        | refine ⟨_, ints_load (by assumption) (by omega) (by omega), ?_⟩
        | refine ⟨(⟨by omega, by omega⟩ : inI64 _), ?_⟩
        | refine ⟨_, fun tm ha => step1_max rfl (ev_tmp ha rfl) (ev_tmp ha rfl), ?_⟩
        | refine ⟨_, fun tm ha => step1_min rfl (ev_tmp ha rfl) (ev_tmp ha rfl), ?_⟩
        | (refine ⟨_, addrX (by decide), ?_⟩)
        | (refine ⟨_, cell_load ag3 hgp rfl, ?_⟩)
        | (refine putX (by omega) hgp (Nat.le_of_ble_eq_true rfl) ?_)
        | (refine ⟨fun _ => ?_, fun _ => ?_⟩ <;> first | (exfalso; omega) | skip)
        | fail
      intro Hq hgq hoq hnq
      have kq := keep_put kp hb1 hoq hnq
      repeat' first
        | refine CO.cons rfl ?_
        | refine CO.nil ?_
        | refine CV.seq ?_
        | refine CV.region callees ?_
        | refine CV.cond ?_
        | refine CV.block ?_
        | refine CV.skip ?_
        | refine CV.exit ?_
        | refine CV.ret ?_
        | refine CV.scope ?_
        | refine CV.draw callees (by decide +kernel) ?_
        | refine CH.cons rfl ?_
        | refine CH.nil ?_
        | refine CO.consG rfl ?_
        | refine CH.consG rfl ?_
        | refine CG.cons rfl ?_
        | refine CR.cons ?_
        | refine CR.nil ?_
        | refine CG.nil ?_
        | refine CG.consG rfl ?_
        | refine ⟨(rfl : plain _ = true), ?_⟩
        | refine ⟨(rfl : nilOk _ = some _), ?_⟩
        | refine ⟨_, ints_len (by assumption), ?_⟩
        | refine ⟨_, ints_addr (by assumption) (by omega) (by omega), ?_⟩
        | refine ⟨_, ints_load (by assumption) (by omega) (by omega), ?_⟩
        | refine ⟨(⟨by omega, by omega⟩ : inI64 _), ?_⟩
        | refine ⟨_, fun tm ha => step1_max rfl (ev_tmp ha rfl) (ev_tmp ha rfl), ?_⟩
        | refine ⟨_, fun tm ha => step1_min rfl (ev_tmp ha rfl) (ev_tmp ha rfl), ?_⟩
        | (refine ⟨fun _ => ?_, fun _ => ?_⟩ <;> first | (exfalso; omega) | skip)
        | fail
      refine ⟨(i + 1), (by repeat' first | exact trivial | refine ⟨rfl, ?_⟩ | refine ⟨slot_int (by (try simp only [Int.toNat_natCast]); omega), ?_⟩), (by (try dsimp only); omega), ?_⟩
      exact ⟨by omega, kq, by rw [e1, e2, e4, Int.natCast_add]; exact hgq⟩
  have hil : i = ws.length := by omega
  subst hil
  have hgsx : Hx.get H.n = some (Sc a c w n l k) := by rw [kx.2 _ (by omega)]; exact hgs
  have hgrx : Hx.get (H.n + 1) = some (Xc 0 0 0 0 0 0 0 0) := by rw [kx.2 _ (by omega)]; exact hgr
  obtain ⟨pa, pc, pw, pn, pl⟩ := hp
  have m1 := mulB (k := pkN ts ws ws.length) (m := 9) pa.1 pa.2 (by omega)
  have m2 := mulB (k := prN ts ws ws.length) (m := 81) pc.1 pc.2 (by omega)
  have m3 := mulB (k := hdN ts ws ws.length) (m := 9) pn.1 pn.2 (by omega)
  have m5 := mulB (k := wrN ts ws ws.length) (m := 9) pl.1 pl.2 (by omega)
  by_cases hwh : pkN ts ws ws.length = ws.length
  · have ew : whN ts ws = 1 := by rw [whN, if_pos hwh]
    repeat' first
      | refine CO.cons rfl ?_
      | refine CO.nil ?_
      | refine CV.seq ?_
      | refine CV.region callees ?_
      | refine CV.cond ?_
      | refine CV.block ?_
      | refine CV.skip ?_
      | refine CV.exit ?_
      | refine CV.ret ?_
      | refine CV.scope ?_
      | refine CV.draw callees (by decide +kernel) ?_
      | refine CH.cons rfl ?_
      | refine CH.nil ?_
      | refine CO.consG rfl ?_
      | refine CH.consG rfl ?_
      | refine CG.cons rfl ?_
      | refine CR.cons ?_
      | refine CR.nil ?_
      | refine CG.nil ?_
      | refine CG.consG rfl ?_
      | refine ⟨(rfl : plain _ = true), ?_⟩
      | refine ⟨(rfl : nilOk _ = some _), ?_⟩
      | refine ⟨_, ints_len (by assumption), ?_⟩
      | refine ⟨_, ints_addr (by assumption) (by omega) (by omega), ?_⟩
      | refine ⟨_, ints_load (by assumption) (by omega) (by omega), ?_⟩
      | refine ⟨(⟨by omega, by omega⟩ : inI64 _), ?_⟩
      | refine ⟨_, fun tm ha => step1_max rfl (ev_tmp ha rfl) (ev_tmp ha rfl), ?_⟩
      | refine ⟨_, fun tm ha => step1_min rfl (ev_tmp ha rfl) (ev_tmp ha rfl), ?_⟩
      | (refine ⟨_, addrX (by decide), ?_⟩)
      | (refine ⟨_, cell_load ag3 hgx rfl, ?_⟩)
      | (refine putX (by omega) hgx (Nat.le_of_ble_eq_true rfl) ?_)
      | (refine ⟨fun _ => ?_, fun _ => ?_⟩ <;> first | (exfalso; omega) | skip)
      | fail
    intro Hp hgp hop hnp
    have kp := keep_put kx hb1 hop hnp
    have hgsp : Hp.get H.n = some (Sc a c w n l k) := by rw [hop _ (by omega)]; exact hgsx
    have hgrp : Hp.get (H.n + 1) = some (Xc 0 0 0 0 0 0 0 0) := by rw [hop _ (by omega)]; exact hgrx
    repeat' first
      | refine CO.cons rfl ?_
      | refine CO.nil ?_
      | refine CV.seq ?_
      | refine CV.region callees ?_
      | refine CV.cond ?_
      | refine CV.block ?_
      | refine CV.skip ?_
      | refine CV.exit ?_
      | refine CV.ret ?_
      | refine CV.scope ?_
      | refine CV.draw callees (by decide +kernel) ?_
      | refine CH.cons rfl ?_
      | refine CH.nil ?_
      | refine CO.consG rfl ?_
      | refine CH.consG rfl ?_
      | refine CG.cons rfl ?_
      | refine CR.cons ?_
      | refine CR.nil ?_
      | refine CG.nil ?_
      | refine CG.consG rfl ?_
      | refine ⟨(rfl : plain _ = true), ?_⟩
      | refine ⟨(rfl : nilOk _ = some _), ?_⟩
      | refine ⟨_, ints_len (by assumption), ?_⟩
      | refine ⟨_, ints_addr (by assumption) (by omega) (by omega), ?_⟩
      | refine ⟨_, ints_load (by assumption) (by omega) (by omega), ?_⟩
      | refine ⟨(⟨by omega, by omega⟩ : inI64 _), ?_⟩
      | refine ⟨_, fun tm ha => step1_max rfl (ev_tmp ha rfl) (ev_tmp ha rfl), ?_⟩
      | refine ⟨_, fun tm ha => step1_min rfl (ev_tmp ha rfl) (ev_tmp ha rfl), ?_⟩
      | (refine ⟨_, addrS (by decide), ?_⟩)
      | (refine ⟨_, addrX (by decide), ?_⟩)
      | (refine ⟨_, cell_load ag3 hgsp rfl, ?_⟩)
      | (refine ⟨_, cell_load ag3 hgp rfl, ?_⟩)
      | (refine putX (by omega) hgp (Nat.le_of_ble_eq_true rfl) ?_)
      | (refine ⟨fun _ => ?_, fun _ => ?_⟩ <;> first | (exfalso; omega) | skip)
      | fail
    intro Hq hgq hoq hnq
    have kq := keep_put kp hb1 hoq hnq
    have hgrq : Hq.get (H.n + 1) = some (Xc 0 0 0 0 0 0 0 0) := by rw [hoq _ (by omega)]; exact hgrp
    repeat' first
      | refine CO.cons rfl ?_
      | refine CO.nil ?_
      | refine CV.seq ?_
      | refine CV.region callees ?_
      | refine CV.cond ?_
      | refine CV.block ?_
      | refine CV.skip ?_
      | refine CV.exit ?_
      | refine CV.ret ?_
      | refine CV.scope ?_
      | refine CV.draw callees (by decide +kernel) ?_
      | refine CH.cons rfl ?_
      | refine CH.nil ?_
      | refine CO.consG rfl ?_
      | refine CH.consG rfl ?_
      | refine CG.cons rfl ?_
      | refine CR.cons ?_
      | refine CR.nil ?_
      | refine CG.nil ?_
      | refine CG.consG rfl ?_
      | refine ⟨(rfl : plain _ = true), ?_⟩
      | refine ⟨(rfl : nilOk _ = some _), ?_⟩
      | refine ⟨_, ints_len (by assumption), ?_⟩
      | refine ⟨_, ints_addr (by assumption) (by omega) (by omega), ?_⟩
      | refine ⟨_, ints_load (by assumption) (by omega) (by omega), ?_⟩
      | refine ⟨(⟨by omega, by omega⟩ : inI64 _), ?_⟩
      | refine ⟨_, fun tm ha => step1_max rfl (ev_tmp ha rfl) (ev_tmp ha rfl), ?_⟩
      | refine ⟨_, fun tm ha => step1_min rfl (ev_tmp ha rfl) (ev_tmp ha rfl), ?_⟩
      | (refine ⟨_, loadX hgq, ?_⟩)
      | (refine ⟨_, _, storeX hgrq, by omega, ?_⟩)
      | (refine ⟨fun _ => ?_, fun _ => ?_⟩ <;> first | (exfalso; omega) | skip)
      | fail
    refine ⟨_, loadX (Heap.get_set_eq _ _ _), rfl, ⟨ho, ?_, hon, ho0, ho3⟩, keep_put (kk1.trans kq) (by omega) (fun d hd => Heap.get_set_ne _ _ (Ne.symm hd)) rfl⟩
    rw [XM, ptsN, ew]; rfl
  · have ew : whN ts ws = 0 := by rw [whN, if_neg hwh]
    repeat' first
      | refine CO.cons rfl ?_
      | refine CO.nil ?_
      | refine CV.seq ?_
      | refine CV.region callees ?_
      | refine CV.cond ?_
      | refine CV.block ?_
      | refine CV.skip ?_
      | refine CV.exit ?_
      | refine CV.ret ?_
      | refine CV.scope ?_
      | refine CV.draw callees (by decide +kernel) ?_
      | refine CH.cons rfl ?_
      | refine CH.nil ?_
      | refine CO.consG rfl ?_
      | refine CH.consG rfl ?_
      | refine CG.cons rfl ?_
      | refine CR.cons ?_
      | refine CR.nil ?_
      | refine CG.nil ?_
      | refine CG.consG rfl ?_
      | refine ⟨(rfl : plain _ = true), ?_⟩
      | refine ⟨(rfl : nilOk _ = some _), ?_⟩
      | refine ⟨_, ints_len (by assumption), ?_⟩
      | refine ⟨_, ints_addr (by assumption) (by omega) (by omega), ?_⟩
      | refine ⟨_, ints_load (by assumption) (by omega) (by omega), ?_⟩
      | refine ⟨(⟨by omega, by omega⟩ : inI64 _), ?_⟩
      | refine ⟨_, fun tm ha => step1_max rfl (ev_tmp ha rfl) (ev_tmp ha rfl), ?_⟩
      | refine ⟨_, fun tm ha => step1_min rfl (ev_tmp ha rfl) (ev_tmp ha rfl), ?_⟩
      | (refine ⟨_, addrX (by decide), ?_⟩)
      | (refine ⟨_, addrS (by decide), ?_⟩)
      | (refine ⟨_, cell_load ag3 hgsx rfl, ?_⟩)
      | (refine ⟨_, cell_load ag3 hgx rfl, ?_⟩)
      | (refine putX (by omega) hgx (Nat.le_of_ble_eq_true rfl) ?_)
      | (refine ⟨fun _ => ?_, fun _ => ?_⟩ <;> first | (exfalso; omega) | skip)
      | fail
    intro Hq hgq hoq hnq
    have kq := keep_put kx hb1 hoq hnq
    have hgrq : Hq.get (H.n + 1) = some (Xc 0 0 0 0 0 0 0 0) := by rw [hoq _ (by omega)]; exact hgrx
    repeat' first
      | refine CO.cons rfl ?_
      | refine CO.nil ?_
      | refine CV.seq ?_
      | refine CV.region callees ?_
      | refine CV.cond ?_
      | refine CV.block ?_
      | refine CV.skip ?_
      | refine CV.exit ?_
      | refine CV.ret ?_
      | refine CV.scope ?_
      | refine CV.draw callees (by decide +kernel) ?_
      | refine CH.cons rfl ?_
      | refine CH.nil ?_
      | refine CO.consG rfl ?_
      | refine CH.consG rfl ?_
      | refine CG.cons rfl ?_
      | refine CR.cons ?_
      | refine CR.nil ?_
      | refine CG.nil ?_
      | refine CG.consG rfl ?_
      | refine ⟨(rfl : plain _ = true), ?_⟩
      | refine ⟨(rfl : nilOk _ = some _), ?_⟩
      | refine ⟨_, ints_len (by assumption), ?_⟩
      | refine ⟨_, ints_addr (by assumption) (by omega) (by omega), ?_⟩
      | refine ⟨_, ints_load (by assumption) (by omega) (by omega), ?_⟩
      | refine ⟨(⟨by omega, by omega⟩ : inI64 _), ?_⟩
      | refine ⟨_, fun tm ha => step1_max rfl (ev_tmp ha rfl) (ev_tmp ha rfl), ?_⟩
      | refine ⟨_, fun tm ha => step1_min rfl (ev_tmp ha rfl) (ev_tmp ha rfl), ?_⟩
      | (refine ⟨_, loadX hgq, ?_⟩)
      | (refine ⟨_, _, storeX hgrq, by omega, ?_⟩)
      | (refine ⟨fun _ => ?_, fun _ => ?_⟩ <;> first | (exfalso; omega) | skip)
      | fail
    refine ⟨_, loadX (Heap.get_set_eq _ _ _), rfl, ⟨ho, ?_, hon, ho0, ho3⟩, keep_put (kk1.trans kq) (by omega) (fun d hd => Heap.get_set_ne _ _ (Ne.symm hd)) rfl⟩
    rw [XM, ptsN, ew]; rfl
end Go.Proofs.Ytlpkbcgdcimglaa.Sc

namespace Go.Proofs.Ytlpkbcgdcimglaa.Sc
open Go.AI
/-- The first error of a scoring and the truth. -/
def bothE (a c w n l : Int) (ks ts : List Int) : Int := if scE a c w n l ks ≠ 0 then scE a c w n l ks else check ts
set_option maxRecDepth 100000 in
theorem scBoth_spec {B : Nat} {H : Heap} {a c w n l : Int} {k v : Value} {ks ts : List Int} (hB : B ≤ H.n) (hk : Ints H k ks) (hn : ks.length < 1000000) (hv : Ints H v ts) :
    CallB Try.prog B 109 [Sv a c w n l k, v] H (fun r H' => r = .int .i64 (bothE a c w n l ks ts) ∧ Keep H H') := by
  refine CV.enter callees false rfl Try.func109 rfl (by kernel_rfl) (Nat.le_of_ble_eq_true rfl) hB ?_
  repeat' first
    | refine CO.cons rfl ?_
    | refine CO.nil ?_
    | refine CV.seq ?_
    | refine CV.region callees ?_
    | refine CV.cond ?_
    | refine CV.block ?_
    | refine CV.skip ?_
    | refine CV.exit ?_
    | refine CV.ret ?_
    | refine CV.scope ?_
    | refine CV.draw callees (by decide +kernel) ?_
    | refine CH.cons rfl ?_
    | refine CH.nil ?_
    | refine CO.consG rfl ?_
    | refine CH.consG rfl ?_
    | refine CG.cons rfl ?_
    | refine CR.cons ?_
    | refine CR.nil ?_
    | refine CG.nil ?_
    | refine CG.consG rfl ?_
    | refine ⟨(rfl : plain _ = true), ?_⟩
    | refine ⟨(rfl : nilOk _ = some _), ?_⟩
    | refine ⟨_, ints_len (by assumption), ?_⟩
    | refine ⟨_, ints_addr (by assumption) (by omega) (by omega), ?_⟩
    | refine ⟨_, ints_load (by assumption) (by omega) (by omega), ?_⟩
    | refine ⟨(⟨by omega, by omega⟩ : inI64 _), ?_⟩
    | refine ⟨_, fun tm ha => step1_max rfl (ev_tmp ha rfl) (ev_tmp ha rfl), ?_⟩
    | refine ⟨_, fun tm ha => step1_min rfl (ev_tmp ha rfl) (ev_tmp ha rfl), ?_⟩
    | (refine ⟨(rfl : notTuple _ = true), ?_⟩)
    | (refine ⟨fun _ => ?_, fun _ => ?_⟩ <;> first | (exfalso; omega) | skip)
    | fail
  rw [alloc_sc hk.oneC.2.2]
  generalize hs : H.new (Sc a c w n l k) = Hs
  have hg := new_get hs
  have kk := new_keep hs
  have hBs := Nat.le_trans hB kk.1
  repeat' first
    | refine CO.cons rfl ?_
    | refine CO.nil ?_
    | refine CV.seq ?_
    | refine CV.region callees ?_
    | refine CV.cond ?_
    | refine CV.block ?_
    | refine CV.skip ?_
    | refine CV.exit ?_
    | refine CV.ret ?_
    | refine CV.scope ?_
    | refine CV.draw callees (by decide +kernel) ?_
    | refine CH.cons rfl ?_
    | refine CH.nil ?_
    | refine CO.consG rfl ?_
    | refine CH.consG rfl ?_
    | refine CG.cons rfl ?_
    | refine CR.cons ?_
    | refine CR.nil ?_
    | refine CG.nil ?_
    | refine CG.consG rfl ?_
    | refine ⟨(rfl : plain _ = true), ?_⟩
    | refine ⟨(rfl : nilOk _ = some _), ?_⟩
    | refine ⟨_, ints_len (by assumption), ?_⟩
    | refine ⟨_, ints_addr (by assumption) (by omega) (by omega), ?_⟩
    | refine ⟨_, ints_load (by assumption) (by omega) (by omega), ?_⟩
    | refine ⟨(⟨by omega, by omega⟩ : inI64 _), ?_⟩
    | refine ⟨_, fun tm ha => step1_max rfl (ev_tmp ha rfl) (ev_tmp ha rfl), ?_⟩
    | refine ⟨_, fun tm ha => step1_min rfl (ev_tmp ha rfl) (ev_tmp ha rfl), ?_⟩
    | (refine ⟨_, loadS hg, ?_⟩)
    | (refine ⟨fun _ => ?_, fun _ => ?_⟩ <;> first | (exfalso; omega) | skip)
    | fail
  refine (scCheck_spec hBs (Row.keep hk kk) hn).mono ?_
  rintro r H1 ⟨rfl, k1⟩
  have hB1 := Nat.le_trans hBs k1.1
  have kk1 := kk.trans k1
  repeat' first
    | refine CO.cons rfl ?_
    | refine CO.nil ?_
    | refine CV.seq ?_
    | refine CV.region callees ?_
    | refine CV.cond ?_
    | refine CV.block ?_
    | refine CV.skip ?_
    | refine CV.exit ?_
    | refine CV.ret ?_
    | refine CV.scope ?_
    | refine CV.draw callees (by decide +kernel) ?_
    | refine CH.cons rfl ?_
    | refine CH.nil ?_
    | refine CO.consG rfl ?_
    | refine CH.consG rfl ?_
    | refine CG.cons rfl ?_
    | refine CR.cons ?_
    | refine CR.nil ?_
    | refine CG.nil ?_
    | refine CG.consG rfl ?_
    | refine ⟨(rfl : plain _ = true), ?_⟩
    | refine ⟨(rfl : nilOk _ = some _), ?_⟩
    | refine ⟨_, ints_len (by assumption), ?_⟩
    | refine ⟨_, ints_addr (by assumption) (by omega) (by omega), ?_⟩
    | refine ⟨_, ints_load (by assumption) (by omega) (by omega), ?_⟩
    | refine ⟨(⟨by omega, by omega⟩ : inI64 _), ?_⟩
    | refine ⟨_, fun tm ha => step1_max rfl (ev_tmp ha rfl) (ev_tmp ha rfl), ?_⟩
    | refine ⟨_, fun tm ha => step1_min rfl (ev_tmp ha rfl) (ev_tmp ha rfl), ?_⟩
    | (refine ⟨fun _ => ?_, fun _ => ?_⟩ <;> first | (exfalso; omega) | skip)
    | fail
  · exact ⟨rfl, by rw [bothE, if_pos (by assumption)], kk1⟩
  · rename_i h0
    refine (chartCheck_spec hB1 (Row.keep hv kk1)).mono ?_
    rintro r H2 ⟨rfl, rfl⟩
    repeat' first
      | refine CO.cons rfl ?_
      | refine CO.nil ?_
      | refine CV.seq ?_
      | refine CV.region callees ?_
      | refine CV.cond ?_
      | refine CV.block ?_
      | refine CV.skip ?_
      | refine CV.exit ?_
      | refine CV.ret ?_
      | refine CV.scope ?_
      | refine CV.draw callees (by decide +kernel) ?_
      | refine CH.cons rfl ?_
      | refine CH.nil ?_
      | refine CO.consG rfl ?_
      | refine CH.consG rfl ?_
      | refine CG.cons rfl ?_
      | refine CR.cons ?_
      | refine CR.nil ?_
      | refine CG.nil ?_
      | refine CG.consG rfl ?_
      | refine ⟨(rfl : plain _ = true), ?_⟩
      | refine ⟨(rfl : nilOk _ = some _), ?_⟩
      | refine ⟨_, ints_len (by assumption), ?_⟩
      | refine ⟨_, ints_addr (by assumption) (by omega) (by omega), ?_⟩
      | refine ⟨_, ints_load (by assumption) (by omega) (by omega), ?_⟩
      | refine ⟨(⟨by omega, by omega⟩ : inI64 _), ?_⟩
      | refine ⟨_, fun tm ha => step1_max rfl (ev_tmp ha rfl) (ev_tmp ha rfl), ?_⟩
      | refine ⟨_, fun tm ha => step1_min rfl (ev_tmp ha rfl) (ev_tmp ha rfl), ?_⟩
      | (refine ⟨fun _ => ?_, fun _ => ?_⟩ <;> first | (exfalso; omega) | skip)
      | fail
    exact ⟨rfl, by rw [bothE, if_neg h0], kk1⟩
def markE (a c w n l : Int) (ks ts ws : List Int) : Int := if bothE a c w n l ks ts ≠ 0 then bothE a c w n l ks ts else ansE ws ts.length
theorem ck_len {ks : List Int} {a c w n l : Int} (h : scE a c w n l ks = 0) : ptsOk a c w n l := by
  by_cases hp : ptsOk a c w n l
  · exact hp
  · rw [scE, if_pos hp] at h; cases h
set_option maxHeartbeats 1000000 in
set_option maxRecDepth 100000 in
theorem mark_spec {B : Nat} {H : Heap} {a c w n l : Int} {k v u : Value} {ks ts ws : List Int} (hB : B ≤ H.n) (hk : Ints H k ks) (hn : ks.length < 1000000) (hv : Ints H v ts) (hu : Ints H u ws) (hw : ws.length < 1000000) (h0 : markE a c w n l ks ts ws = 0) :
    CallB Try.prog B 72 [Sv a c w n l k, v, u] H (fun r H' => (∃ ho, r = .tuple #[XM a c w n l ts ws ho, .int .i64 0] ∧ Hon ts ws ho ∧ 0 ≤ ho ∧ ho ≤ 3) ∧ Keep H H') := by
  have hb0 : bothE a c w n l ks ts = 0 := by
    unfold markE at h0; split at h0
    · rename_i h; exact absurd h0 h
    · rename_i h; exact Classical.not_not.1 h
  have ha0 : ansE ws ts.length = 0 := by rw [markE, if_neg (fun h => h hb0)] at h0; exact h0
  have hs0 : scE a c w n l ks = 0 := by
    unfold bothE at hb0; split at hb0
    · rename_i h; exact absurd hb0 h
    · rename_i h; exact Classical.not_not.1 h
  have ht : check ts = 0 := by rw [bothE, if_neg (fun h => h hs0)] at hb0; exact hb0
  have hl : ws.length = ts.length := by
    unfold ansE at ha0; split at ha0
    · cases ha0
    · omega
  have h9 := check_len ht
  refine CV.enter callees false rfl Try.func72 rfl (by kernel_rfl) (Nat.le_of_ble_eq_true rfl) hB ?_
  repeat' first
    | refine CO.cons rfl ?_
    | refine CO.nil ?_
    | refine CV.seq ?_
    | refine CV.region callees ?_
    | refine CV.cond ?_
    | refine CV.block ?_
    | refine CV.skip ?_
    | refine CV.exit ?_
    | refine CV.ret ?_
    | refine CV.scope ?_
    | refine CV.draw callees (by decide +kernel) ?_
    | refine CH.cons rfl ?_
    | refine CH.nil ?_
    | refine CO.consG rfl ?_
    | refine CH.consG rfl ?_
    | refine CG.cons rfl ?_
    | refine CR.cons ?_
    | refine CR.nil ?_
    | refine CG.nil ?_
    | refine CG.consG rfl ?_
    | refine ⟨(rfl : plain _ = true), ?_⟩
    | refine ⟨(rfl : nilOk _ = some _), ?_⟩
    | refine ⟨_, ints_len (by assumption), ?_⟩
    | refine ⟨_, ints_addr (by assumption) (by omega) (by omega), ?_⟩
    | refine ⟨_, ints_load (by assumption) (by omega) (by omega), ?_⟩
    | refine ⟨(⟨by omega, by omega⟩ : inI64 _), ?_⟩
    | refine ⟨_, fun tm ha => step1_max rfl (ev_tmp ha rfl) (ev_tmp ha rfl), ?_⟩
    | refine ⟨_, fun tm ha => step1_min rfl (ev_tmp ha rfl) (ev_tmp ha rfl), ?_⟩
    | (refine ⟨(rfl : notTuple _ = true), ?_⟩)
    | (refine ⟨fun _ => ?_, fun _ => ?_⟩ <;> first | (exfalso; omega) | skip)
    | fail
  rw [alloc_sc hk.oneC.2.2]
  generalize hs1 : H.new (Sc a c w n l k) = Ha
  have hg1 := new_get hs1
  have k1 := new_keep hs1
  have n1 := new_n hs1
  repeat' first
    | refine CO.cons rfl ?_
    | refine CO.nil ?_
    | refine CV.seq ?_
    | refine CV.region callees ?_
    | refine CV.cond ?_
    | refine CV.block ?_
    | refine CV.skip ?_
    | refine CV.exit ?_
    | refine CV.ret ?_
    | refine CV.scope ?_
    | refine CV.draw callees (by decide +kernel) ?_
    | refine CH.cons rfl ?_
    | refine CH.nil ?_
    | refine CO.consG rfl ?_
    | refine CH.consG rfl ?_
    | refine CG.cons rfl ?_
    | refine CR.cons ?_
    | refine CR.nil ?_
    | refine CG.nil ?_
    | refine CG.consG rfl ?_
    | refine ⟨(rfl : plain _ = true), ?_⟩
    | refine ⟨(rfl : nilOk _ = some _), ?_⟩
    | refine ⟨_, ints_len (by assumption), ?_⟩
    | refine ⟨_, ints_addr (by assumption) (by omega) (by omega), ?_⟩
    | refine ⟨_, ints_load (by assumption) (by omega) (by omega), ?_⟩
    | refine ⟨(⟨by omega, by omega⟩ : inI64 _), ?_⟩
    | refine ⟨_, fun tm ha => step1_max rfl (ev_tmp ha rfl) (ev_tmp ha rfl), ?_⟩
    | refine ⟨_, fun tm ha => step1_min rfl (ev_tmp ha rfl) (ev_tmp ha rfl), ?_⟩
    | (refine ⟨_, _, allocX, ?_⟩)
    | (refine ⟨fun _ => ?_, fun _ => ?_⟩ <;> first | (exfalso; omega) | skip)
    | fail
  generalize hs2 : Ha.new (Xc 0 0 0 0 0 0 0 0) = H1
  have hgr := new_get hs2
  have k2 := new_keep hs2
  have n2 := new_n hs2
  rw [n1] at hgr n2 ⊢
  have hgs : H1.get H.n = some (Sc a c w n l k) := by rw [k2.2 _ (by omega)]; exact hg1
  have kk1 : Keep H H1 := k1.trans k2
  have hB1 : B ≤ H1.n := by omega
  repeat' first
    | refine CO.cons rfl ?_
    | refine CO.nil ?_
    | refine CV.seq ?_
    | refine CV.region callees ?_
    | refine CV.cond ?_
    | refine CV.block ?_
    | refine CV.skip ?_
    | refine CV.exit ?_
    | refine CV.ret ?_
    | refine CV.scope ?_
    | refine CV.draw callees (by decide +kernel) ?_
    | refine CH.cons rfl ?_
    | refine CH.nil ?_
    | refine CO.consG rfl ?_
    | refine CH.consG rfl ?_
    | refine CG.cons rfl ?_
    | refine CR.cons ?_
    | refine CR.nil ?_
    | refine CG.nil ?_
    | refine CG.consG rfl ?_
    | refine ⟨(rfl : plain _ = true), ?_⟩
    | refine ⟨(rfl : nilOk _ = some _), ?_⟩
    | refine ⟨_, ints_len (by assumption), ?_⟩
    | refine ⟨_, ints_addr (by assumption) (by omega) (by omega), ?_⟩
    | refine ⟨_, ints_load (by assumption) (by omega) (by omega), ?_⟩
    | refine ⟨(⟨by omega, by omega⟩ : inI64 _), ?_⟩
    | refine ⟨_, fun tm ha => step1_max rfl (ev_tmp ha rfl) (ev_tmp ha rfl), ?_⟩
    | refine ⟨_, fun tm ha => step1_min rfl (ev_tmp ha rfl) (ev_tmp ha rfl), ?_⟩
    | (refine ⟨_, loadS hgs, ?_⟩)
    | (refine ⟨fun _ => ?_, fun _ => ?_⟩ <;> first | (exfalso; omega) | skip)
    | fail
  refine (scBoth_spec hB1 (Row.keep hk kk1) hn (Row.keep hv kk1)).mono ?_
  rintro r H2 ⟨rfl, k3⟩
  rw [hb0]
  have kk2 := kk1.trans k3
  have hB2 := Nat.le_trans hB kk2.1
  have hv2 : Ints H2 v ts := Row.keep hv kk2
  have hu2 : Ints H2 u ws := Row.keep hu kk2
  have hgs2 : H2.get H.n = some (Sc a c w n l k) := by rw [k3.2 _ (by omega)]; exact hgs
  have hgr2 : H2.get (H.n + 1) = some (Xc 0 0 0 0 0 0 0 0) := by rw [k3.2 _ (by omega)]; exact hgr
  have hn2 : H.n + 2 ≤ H2.n := by have := k3.1; omega
  repeat' first
    | refine CO.cons rfl ?_
    | refine CO.nil ?_
    | refine CV.seq ?_
    | refine CV.region callees ?_
    | refine CV.cond ?_
    | refine CV.block ?_
    | refine CV.skip ?_
    | refine CV.exit ?_
    | refine CV.ret ?_
    | refine CV.scope ?_
    | refine CV.draw callees (by decide +kernel) ?_
    | refine CH.cons rfl ?_
    | refine CH.nil ?_
    | refine CO.consG rfl ?_
    | refine CH.consG rfl ?_
    | refine CG.cons rfl ?_
    | refine CR.cons ?_
    | refine CR.nil ?_
    | refine CG.nil ?_
    | refine CG.consG rfl ?_
    | refine ⟨(rfl : plain _ = true), ?_⟩
    | refine ⟨(rfl : nilOk _ = some _), ?_⟩
    | refine ⟨_, ints_len (by assumption), ?_⟩
    | refine ⟨_, ints_addr (by assumption) (by omega) (by omega), ?_⟩
    | refine ⟨_, ints_load (by assumption) (by omega) (by omega), ?_⟩
    | refine ⟨(⟨by omega, by omega⟩ : inI64 _), ?_⟩
    | refine ⟨_, fun tm ha => step1_max rfl (ev_tmp ha rfl) (ev_tmp ha rfl), ?_⟩
    | refine ⟨_, fun tm ha => step1_min rfl (ev_tmp ha rfl) (ev_tmp ha rfl), ?_⟩
    | (refine ⟨fun _ => ?_, fun _ => ?_⟩ <;> first | (exfalso; omega) | skip)
    | fail
  refine (checkAnswer_spec hB2 hu2 (by omega)).mono ?_
  rintro r H3 ⟨rfl, rfl⟩
  rw [ha0]
  repeat' first
    | refine CO.cons rfl ?_
    | refine CO.nil ?_
    | refine CV.seq ?_
    | refine CV.region callees ?_
    | refine CV.cond ?_
    | refine CV.block ?_
    | refine CV.skip ?_
    | refine CV.exit ?_
    | refine CV.ret ?_
    | refine CV.scope ?_
    | refine CV.draw callees (by decide +kernel) ?_
    | refine CH.cons rfl ?_
    | refine CH.nil ?_
    | refine CO.consG rfl ?_
    | refine CH.consG rfl ?_
    | refine CG.cons rfl ?_
    | refine CR.cons ?_
    | refine CR.nil ?_
    | refine CG.nil ?_
    | refine CG.consG rfl ?_
    | refine ⟨(rfl : plain _ = true), ?_⟩
    | refine ⟨(rfl : nilOk _ = some _), ?_⟩
    | refine ⟨_, ints_len (by assumption), ?_⟩
    | refine ⟨_, ints_addr (by assumption) (by omega) (by omega), ?_⟩
    | refine ⟨_, ints_load (by assumption) (by omega) (by omega), ?_⟩
    | refine ⟨(⟨by omega, by omega⟩ : inI64 _), ?_⟩
    | refine ⟨_, fun tm ha => step1_max rfl (ev_tmp ha rfl) (ev_tmp ha rfl), ?_⟩
    | refine ⟨_, fun tm ha => step1_min rfl (ev_tmp ha rfl) (ev_tmp ha rfl), ?_⟩
    | (refine ⟨_, loadS hgs2, ?_⟩)
    | (refine ⟨fun _ => ?_, fun _ => ?_⟩ <;> first | (exfalso; omega) | skip)
    | fail
  refine (marked_spec hB2 (Row.keep hk kk2) hv2 hu2 (ck_len hs0) ht hl).mono ?_
  rintro r H4 ⟨⟨ho, rfl, hon, ho0, ho3⟩, k4⟩
  have hgr4 : H4.get (H.n + 1) = some (Xc 0 0 0 0 0 0 0 0) := by rw [k4.2 _ (by omega)]; exact hgr2
  repeat' first
    | refine CO.cons rfl ?_
    | refine CO.nil ?_
    | refine CV.seq ?_
    | refine CV.region callees ?_
    | refine CV.cond ?_
    | refine CV.block ?_
    | refine CV.skip ?_
    | refine CV.exit ?_
    | refine CV.ret ?_
    | refine CV.scope ?_
    | refine CV.draw callees (by decide +kernel) ?_
    | refine CH.cons rfl ?_
    | refine CH.nil ?_
    | refine CO.consG rfl ?_
    | refine CH.consG rfl ?_
    | refine CG.cons rfl ?_
    | refine CR.cons ?_
    | refine CR.nil ?_
    | refine CG.nil ?_
    | refine CG.consG rfl ?_
    | refine ⟨(rfl : plain _ = true), ?_⟩
    | refine ⟨(rfl : nilOk _ = some _), ?_⟩
    | refine ⟨_, ints_len (by assumption), ?_⟩
    | refine ⟨_, ints_addr (by assumption) (by omega) (by omega), ?_⟩
    | refine ⟨_, ints_load (by assumption) (by omega) (by omega), ?_⟩
    | refine ⟨(⟨by omega, by omega⟩ : inI64 _), ?_⟩
    | refine ⟨_, fun tm ha => step1_max rfl (ev_tmp ha rfl) (ev_tmp ha rfl), ?_⟩
    | refine ⟨_, fun tm ha => step1_min rfl (ev_tmp ha rfl) (ev_tmp ha rfl), ?_⟩
    | (refine ⟨_, _, storeX hgr4, by omega, ?_⟩)
    | (refine ⟨fun _ => ?_, fun _ => ?_⟩ <;> first | (exfalso; omega) | skip)
    | fail
  refine ⟨_, loadX (Heap.get_set_eq _ _ _), rfl, ⟨ho, rfl, hon, ho0, ho3⟩, keep_put (kk2.trans k4) (by omega) (fun d hd => Heap.get_set_ne _ _ (Ne.symm hd)) rfl⟩
set_option maxRecDepth 100000 in
theorem pick_spec {B b : Nat} {H : Heap} {v : Value} {xs : List Int} (hB : B ≤ b) (hn : B ≤ H.n) (hb : Box b H) (hv : Ints H v xs) (h0 : 0 < xs.length) (h9 : xs.length ≤ 1000) :
    CallB Try.prog B 21 [bp b, v] H (fun r H' => (∃ i, i < xs.length ∧ r = .int .i64 xs[i]!) ∧ Box b H' ∧ KeepX b H H') := by
  refine CV.enter callees false rfl Try.func21 rfl (by kernel_rfl) (Nat.le_of_ble_eq_true rfl) hn ?_
  repeat' first
    | refine CO.cons rfl ?_
    | refine CO.nil ?_
    | refine CV.seq ?_
    | refine CV.region callees ?_
    | refine CV.cond ?_
    | refine CV.block ?_
    | refine CV.skip ?_
    | refine CV.exit ?_
    | refine CV.ret ?_
    | refine CV.scope ?_
    | refine CV.draw callees (by decide +kernel) ?_
    | refine CH.cons rfl ?_
    | refine CH.nil ?_
    | refine CO.consG rfl ?_
    | refine CH.consG rfl ?_
    | refine CG.cons rfl ?_
    | refine CR.cons ?_
    | refine CR.nil ?_
    | refine CG.nil ?_
    | refine CG.consG rfl ?_
    | refine ⟨(rfl : plain _ = true), ?_⟩
    | refine ⟨(rfl : nilOk _ = some _), ?_⟩
    | refine ⟨_, ints_len (by assumption), ?_⟩
    | refine ⟨_, ints_addr (by assumption) (by omega) (by omega), ?_⟩
    | refine ⟨_, ints_load (by assumption) (by omega) (by omega), ?_⟩
    | refine ⟨(⟨by omega, by omega⟩ : inI64 _), ?_⟩
    | refine ⟨_, fun tm ha => step1_max rfl (ev_tmp ha rfl) (ev_tmp ha rfl), ?_⟩
    | refine ⟨_, fun tm ha => step1_min rfl (ev_tmp ha rfl) (ev_tmp ha rfl), ?_⟩
    | (refine ⟨fun _ => ?_, fun _ => ?_⟩ <;> first | (exfalso; omega) | skip)
    | fail
  refine (up_spec hB hn hb (by omega)).mono ?_
  rintro r H2 ⟨⟨x, rfl, hx0, hx1⟩, hb2, hk2⟩
  have hv2 : Ints H2 v xs := row_box hv hk2 hb
  repeat' first
    | refine CO.cons rfl ?_
    | refine CO.nil ?_
    | refine CV.seq ?_
    | refine CV.region callees ?_
    | refine CV.cond ?_
    | refine CV.block ?_
    | refine CV.skip ?_
    | refine CV.exit ?_
    | refine CV.ret ?_
    | refine CV.scope ?_
    | refine CV.draw callees (by decide +kernel) ?_
    | refine CH.cons rfl ?_
    | refine CH.nil ?_
    | refine CO.consG rfl ?_
    | refine CH.consG rfl ?_
    | refine CG.cons rfl ?_
    | refine CR.cons ?_
    | refine CR.nil ?_
    | refine CG.nil ?_
    | refine CG.consG rfl ?_
    | refine ⟨(rfl : plain _ = true), ?_⟩
    | refine ⟨(rfl : nilOk _ = some _), ?_⟩
    | refine ⟨_, ints_len (by assumption), ?_⟩
    | refine ⟨_, ints_addr (by assumption) (by omega) (by omega), ?_⟩
    | refine ⟨_, ints_load (by assumption) (by omega) (by omega), ?_⟩
    | refine ⟨(⟨by omega, by omega⟩ : inI64 _), ?_⟩
    | refine ⟨_, fun tm ha => step1_max rfl (ev_tmp ha rfl) (ev_tmp ha rfl), ?_⟩
    | refine ⟨_, fun tm ha => step1_min rfl (ev_tmp ha rfl) (ev_tmp ha rfl), ?_⟩
    | (refine ⟨fun _ => ?_, fun _ => ?_⟩ <;> first | (exfalso; omega) | skip)
    | fail
  exact ⟨rfl, ⟨x.toNat, by omega, rfl⟩, hb2, hk2⟩
end Go.Proofs.Ytlpkbcgdcimglaa.Sc

namespace Go.Proofs.Ytlpkbcgdcimglaa.Sc
open Go.AI
theorem zeroS : zeroCells Try.prog 79 = some [.int .i64 0, .int .i64 0, .int .i64 0, .int .i64 0, .int .i64 0, .slice none 0 0] := by kernel_rfl
theorem allocS {H : Heap} : sAlloc Try.prog H 79 = some (.pointer (some ⟨H.n, 0, none⟩), H.new (Sc 0 0 0 0 0 (.slice none 0 0)), H.n) := alloc_of zeroS
theorem buildS {a c w n l : Int} : abuild Try.prog 79 [(0, .int .i64 a), (1, .int .i64 c), (2, .int .i64 w), (3, .int .i64 n), (4, .int .i64 l)] = some (Sv a c w n l (.slice none 0 0)) := by kernel_rfl
theorem storeS {H : Heap} {b : Nat} {a c w n l a' c' w' n' l' : Int} {k k' : Value} (hk : oneC k' = true) (hg : H.get b = some (Sc a c w n l k)) : astore Try.prog 79 H (Sv a' c' w' n' l' k') (.pointer (some ⟨b, 0, none⟩)) = some (H.set b (Sc a' c' w' n' l' k'), b) :=
  store_all (vs := [.int .i64 a', .int .i64 c', .int .i64 w', .int .i64 n', .int .i64 l', k']) hg rfl szS (by simp [oneC] at hk ⊢; exact hk)
/-- A scoring that is valid: its keys are some of six, each one once. -/
structure Valid (a c w n l : Int) (ks : List Int) : Prop where
  pts : (0 ≤ a ∧ a ≤ 4) ∧ (0 ≤ c ∧ c ≤ 3) ∧ (0 ≤ w ∧ w ≤ 19) ∧ (0 ≤ n ∧ n ≤ 5) ∧ 0 ≤ l ∧ l ≤ 3
  len : ks.length ≤ 4
  dist : Dist ks
  keys : ∀ i, i < ks.length → 1 ≤ ks[i]! ∧ ks[i]! ≤ 6
theorem two_at {x : Int} {i : Nat} (h : i < ([0, x] : List Int).length) (hx : 0 ≤ x) : 0 ≤ ([0, x] : List Int)[i]! ∧ ([0, x] : List Int)[i]! ≤ x := by
  match i, h with
  | 0, _ => exact ⟨Int.le_refl _, hx⟩
  | 1, _ => exact ⟨hx, Int.le_refl _⟩
set_option maxHeartbeats 4000000 in
set_option maxRecDepth 100000 in
theorem scoringOf_spec {B b : Nat} {H : Heap} (hB : B ≤ b) (hn : B ≤ H.n) (hb : Box b H) :
    CallB Try.prog B 71 [bp b] H (fun r H' => (∃ a c w n l k ks, r = Sv a c w n l k ∧ Valid a c w n l ks ∧ Own 3 H' k (ks.map VI) H.n) ∧ Box b H' ∧ KeepX b H H') := by
  have hbn := hb.1
  refine CV.enter callees false rfl Try.func71 rfl (by kernel_rfl) (Nat.le_of_ble_eq_true rfl) hn ?_
  repeat' first
    | refine CO.cons rfl ?_
    | refine CO.nil ?_
    | refine CV.seq ?_
    | refine CV.region callees ?_
    | refine CV.cond ?_
    | refine CV.block ?_
    | refine CV.skip ?_
    | refine CV.exit ?_
    | refine CV.ret ?_
    | refine CV.scope ?_
    | refine CV.draw callees (by decide +kernel) ?_
    | refine CH.cons rfl ?_
    | refine CH.nil ?_
    | refine CO.consG rfl ?_
    | refine CH.consG rfl ?_
    | refine CG.cons rfl ?_
    | refine CR.cons ?_
    | refine CR.nil ?_
    | refine CG.nil ?_
    | refine CG.consG rfl ?_
    | refine ⟨(rfl : plain _ = true), ?_⟩
    | refine ⟨(rfl : nilOk _ = some _), ?_⟩
    | refine ⟨_, ints_len (by assumption), ?_⟩
    | refine ⟨_, ints_addr (by assumption) (by omega) (by omega), ?_⟩
    | refine ⟨_, ints_load (by assumption) (by omega) (by omega), ?_⟩
    | refine ⟨(⟨by omega, by omega⟩ : inI64 _), ?_⟩
    | refine ⟨_, fun tm ha => step1_max rfl (ev_tmp ha rfl) (ev_tmp ha rfl), ?_⟩
    | refine ⟨_, fun tm ha => step1_min rfl (ev_tmp ha rfl) (ev_tmp ha rfl), ?_⟩
    | (refine ⟨_, _, allocS, ?_⟩)
    | (refine ⟨fun _ => ?_, fun _ => ?_⟩ <;> first | (exfalso; omega) | skip)
    | fail
  generalize hs0 : H.new (Sc 0 0 0 0 0 (.slice none 0 0)) = H0
  have hgr := new_get hs0
  have k0 := new_keep hs0
  have n0 := new_n hs0
  have hb0 := hb.keep k0
  have xx : KeepX b H0 H0 := KeepX.refl _ _
  repeat' first
    | refine CO.cons rfl ?_
    | refine CO.nil ?_
    | refine CV.seq ?_
    | refine CV.region callees ?_
    | refine CV.cond ?_
    | refine CV.block ?_
    | refine CV.skip ?_
    | refine CV.exit ?_
    | refine CV.ret ?_
    | refine CV.scope ?_
    | refine CV.draw callees (by decide +kernel) ?_
    | refine CH.cons rfl ?_
    | refine CH.nil ?_
    | refine CO.consG rfl ?_
    | refine CH.consG rfl ?_
    | refine CG.cons rfl ?_
    | refine CR.cons ?_
    | refine CR.nil ?_
    | refine CG.nil ?_
    | refine CG.consG rfl ?_
    | refine ⟨(rfl : plain _ = true), ?_⟩
    | refine ⟨(rfl : nilOk _ = some _), ?_⟩
    | refine ⟨_, ints_len (by assumption), ?_⟩
    | refine ⟨_, ints_addr (by assumption) (by omega) (by omega), ?_⟩
    | refine ⟨_, ints_load (by assumption) (by omega) (by omega), ?_⟩
    | refine ⟨(⟨by omega, by omega⟩ : inI64 _), ?_⟩
    | refine ⟨_, fun tm ha => step1_max rfl (ev_tmp ha rfl) (ev_tmp ha rfl), ?_⟩
    | refine ⟨_, fun tm ha => step1_min rfl (ev_tmp ha rfl) (ev_tmp ha rfl), ?_⟩
    | (refine ⟨fun _ => ?_, fun _ => ?_⟩ <;> first | (exfalso; omega) | skip)
    | fail
  refine (up_spec hB (by omega) hb0 (by omega)).mono ?_
  rintro r H1 ⟨⟨a, rfl, a0, a1⟩, hb1, x1⟩
  have l1 := x1.1
  replace xx := xx.trans x1
  repeat' first
    | refine CO.cons rfl ?_
    | refine CO.nil ?_
    | refine CV.seq ?_
    | refine CV.region callees ?_
    | refine CV.cond ?_
    | refine CV.block ?_
    | refine CV.skip ?_
    | refine CV.exit ?_
    | refine CV.ret ?_
    | refine CV.scope ?_
    | refine CV.draw callees (by decide +kernel) ?_
    | refine CH.cons rfl ?_
    | refine CH.nil ?_
    | refine CO.consG rfl ?_
    | refine CH.consG rfl ?_
    | refine CG.cons rfl ?_
    | refine CR.cons ?_
    | refine CR.nil ?_
    | refine CG.nil ?_
    | refine CG.consG rfl ?_
    | refine ⟨(rfl : plain _ = true), ?_⟩
    | refine ⟨(rfl : nilOk _ = some _), ?_⟩
    | refine ⟨_, ints_len (by assumption), ?_⟩
    | refine ⟨_, ints_addr (by assumption) (by omega) (by omega), ?_⟩
    | refine ⟨_, ints_load (by assumption) (by omega) (by omega), ?_⟩
    | refine ⟨(⟨by omega, by omega⟩ : inI64 _), ?_⟩
    | refine ⟨_, fun tm ha => step1_max rfl (ev_tmp ha rfl) (ev_tmp ha rfl), ?_⟩
    | refine ⟨_, fun tm ha => step1_min rfl (ev_tmp ha rfl) (ev_tmp ha rfl), ?_⟩
    | (refine ⟨fun _ => ?_, fun _ => ?_⟩ <;> first | (exfalso; omega) | skip)
    | fail
  refine (up_spec hB (by omega) hb1 (by omega)).mono ?_
  rintro r H2 ⟨⟨c, rfl, c0, c1⟩, hb2, x2⟩
  have l2 := x2.1
  replace xx := xx.trans x2
  repeat' first
    | refine CO.cons rfl ?_
    | refine CO.nil ?_
    | refine CV.seq ?_
    | refine CV.region callees ?_
    | refine CV.cond ?_
    | refine CV.block ?_
    | refine CV.skip ?_
    | refine CV.exit ?_
    | refine CV.ret ?_
    | refine CV.scope ?_
    | refine CV.draw callees (by decide +kernel) ?_
    | refine CH.cons rfl ?_
    | refine CH.nil ?_
    | refine CO.consG rfl ?_
    | refine CH.consG rfl ?_
    | refine CG.cons rfl ?_
    | refine CR.cons ?_
    | refine CR.nil ?_
    | refine CG.nil ?_
    | refine CG.consG rfl ?_
    | refine ⟨(rfl : plain _ = true), ?_⟩
    | refine ⟨(rfl : nilOk _ = some _), ?_⟩
    | refine ⟨_, ints_len (by assumption), ?_⟩
    | refine ⟨_, ints_addr (by assumption) (by omega) (by omega), ?_⟩
    | refine ⟨_, ints_load (by assumption) (by omega) (by omega), ?_⟩
    | refine ⟨(⟨by omega, by omega⟩ : inI64 _), ?_⟩
    | refine ⟨_, fun tm ha => step1_max rfl (ev_tmp ha rfl) (ev_tmp ha rfl), ?_⟩
    | refine ⟨_, fun tm ha => step1_min rfl (ev_tmp ha rfl) (ev_tmp ha rfl), ?_⟩
    | (refine ⟨fun _ => ?_, fun _ => ?_⟩ <;> first | (exfalso; omega) | skip)
    | fail
  refine (up_spec hB (by omega) hb2 (by omega)).mono ?_
  rintro r H3 ⟨⟨w, rfl, w0, w1⟩, hb3, x3⟩
  have lH3 := x3.1
  replace xx := xx.trans x3
  repeat' first
    | refine CO.cons rfl ?_
    | refine CO.nil ?_
    | refine CV.seq ?_
    | refine CV.region callees ?_
    | refine CV.cond ?_
    | refine CV.block ?_
    | refine CV.skip ?_
    | refine CV.exit ?_
    | refine CV.ret ?_
    | refine CV.scope ?_
    | refine CV.draw callees (by decide +kernel) ?_
    | refine CH.cons rfl ?_
    | refine CH.nil ?_
    | refine CO.consG rfl ?_
    | refine CH.consG rfl ?_
    | refine CG.cons rfl ?_
    | refine CR.cons ?_
    | refine CR.nil ?_
    | refine CG.nil ?_
    | refine CG.consG rfl ?_
    | refine ⟨(rfl : plain _ = true), ?_⟩
    | refine ⟨(rfl : nilOk _ = some _), ?_⟩
    | refine ⟨_, ints_len (by assumption), ?_⟩
    | refine ⟨_, ints_addr (by assumption) (by omega) (by omega), ?_⟩
    | refine ⟨_, ints_load (by assumption) (by omega) (by omega), ?_⟩
    | refine ⟨(⟨by omega, by omega⟩ : inI64 _), ?_⟩
    | refine ⟨_, fun tm ha => step1_max rfl (ev_tmp ha rfl) (ev_tmp ha rfl), ?_⟩
    | refine ⟨_, fun tm ha => step1_min rfl (ev_tmp ha rfl) (ev_tmp ha rfl), ?_⟩
    | refine ⟨_, _, build_vals [VI 0, VI w] un22 one3 rfl (Nat.le_of_ble_eq_true rfl), ?_⟩
    | (refine ⟨fun _ => ?_, fun _ => ?_⟩ <;> first | (exfalso; omega) | skip)
    | fail
  generalize hsH3 : Heap.new _ _ = H4
  have hwH3 : Ints H4 (.slice (some ⟨H3.n, 0, none⟩) 2 0) [0, w] := by rw [← hsH3]; exact new_row rfl
  have knH3 := new_keep hsH3
  have hcH3 := hb3.keep knH3
  have llH3 := knH3.1
  replace xx := xx.trans (knH3.butX b)
  refine (pick_spec hB (by omega) hcH3 hwH3 (Nat.le_of_ble_eq_true rfl) (Nat.le_of_ble_eq_true rfl)).mono ?_
  rintro r H5 ⟨⟨i1, hi1, rfl⟩, hb5, x5⟩
  have l5 := x5.1
  replace xx := xx.trans x5
  have t1 := two_at hi1 w0
  generalize ([0, w] : List Int)[i1]! = w' at t1 ⊢
  repeat' first
    | refine CO.cons rfl ?_
    | refine CO.nil ?_
    | refine CV.seq ?_
    | refine CV.region callees ?_
    | refine CV.cond ?_
    | refine CV.block ?_
    | refine CV.skip ?_
    | refine CV.exit ?_
    | refine CV.ret ?_
    | refine CV.scope ?_
    | refine CV.draw callees (by decide +kernel) ?_
    | refine CH.cons rfl ?_
    | refine CH.nil ?_
    | refine CO.consG rfl ?_
    | refine CH.consG rfl ?_
    | refine CG.cons rfl ?_
    | refine CR.cons ?_
    | refine CR.nil ?_
    | refine CG.nil ?_
    | refine CG.consG rfl ?_
    | refine ⟨(rfl : plain _ = true), ?_⟩
    | refine ⟨(rfl : nilOk _ = some _), ?_⟩
    | refine ⟨_, ints_len (by assumption), ?_⟩
    | refine ⟨_, ints_addr (by assumption) (by omega) (by omega), ?_⟩
    | refine ⟨_, ints_load (by assumption) (by omega) (by omega), ?_⟩
    | refine ⟨(⟨by omega, by omega⟩ : inI64 _), ?_⟩
    | refine ⟨_, fun tm ha => step1_max rfl (ev_tmp ha rfl) (ev_tmp ha rfl), ?_⟩
    | refine ⟨_, fun tm ha => step1_min rfl (ev_tmp ha rfl) (ev_tmp ha rfl), ?_⟩
    | (refine ⟨fun _ => ?_, fun _ => ?_⟩ <;> first | (exfalso; omega) | skip)
    | fail
  refine (up_spec hB (by omega) hb5 (by omega)).mono ?_
  rintro r H6 ⟨⟨n, rfl, n0, n1⟩, hb6, x6⟩
  have lH6 := x6.1
  replace xx := xx.trans x6
  repeat' first
    | refine CO.cons rfl ?_
    | refine CO.nil ?_
    | refine CV.seq ?_
    | refine CV.region callees ?_
    | refine CV.cond ?_
    | refine CV.block ?_
    | refine CV.skip ?_
    | refine CV.exit ?_
    | refine CV.ret ?_
    | refine CV.scope ?_
    | refine CV.draw callees (by decide +kernel) ?_
    | refine CH.cons rfl ?_
    | refine CH.nil ?_
    | refine CO.consG rfl ?_
    | refine CH.consG rfl ?_
    | refine CG.cons rfl ?_
    | refine CR.cons ?_
    | refine CR.nil ?_
    | refine CG.nil ?_
    | refine CG.consG rfl ?_
    | refine ⟨(rfl : plain _ = true), ?_⟩
    | refine ⟨(rfl : nilOk _ = some _), ?_⟩
    | refine ⟨_, ints_len (by assumption), ?_⟩
    | refine ⟨_, ints_addr (by assumption) (by omega) (by omega), ?_⟩
    | refine ⟨_, ints_load (by assumption) (by omega) (by omega), ?_⟩
    | refine ⟨(⟨by omega, by omega⟩ : inI64 _), ?_⟩
    | refine ⟨_, fun tm ha => step1_max rfl (ev_tmp ha rfl) (ev_tmp ha rfl), ?_⟩
    | refine ⟨_, fun tm ha => step1_min rfl (ev_tmp ha rfl) (ev_tmp ha rfl), ?_⟩
    | refine ⟨_, _, build_vals [VI 0, VI n] un22 one3 rfl (Nat.le_of_ble_eq_true rfl), ?_⟩
    | (refine ⟨fun _ => ?_, fun _ => ?_⟩ <;> first | (exfalso; omega) | skip)
    | fail
  generalize hsH6 : Heap.new _ _ = H7
  have hwH6 : Ints H7 (.slice (some ⟨H6.n, 0, none⟩) 2 0) [0, n] := by rw [← hsH6]; exact new_row rfl
  have knH6 := new_keep hsH6
  have hcH6 := hb6.keep knH6
  have llH6 := knH6.1
  replace xx := xx.trans (knH6.butX b)
  refine (pick_spec hB (by omega) hcH6 hwH6 (Nat.le_of_ble_eq_true rfl) (Nat.le_of_ble_eq_true rfl)).mono ?_
  rintro r H8 ⟨⟨i2, hi2, rfl⟩, hb8, x8⟩
  have l8 := x8.1
  replace xx := xx.trans x8
  have t2 := two_at hi2 n0
  generalize ([0, n] : List Int)[i2]! = n' at t2 ⊢
  repeat' first
    | refine CO.cons rfl ?_
    | refine CO.nil ?_
    | refine CV.seq ?_
    | refine CV.region callees ?_
    | refine CV.cond ?_
    | refine CV.block ?_
    | refine CV.skip ?_
    | refine CV.exit ?_
    | refine CV.ret ?_
    | refine CV.scope ?_
    | refine CV.draw callees (by decide +kernel) ?_
    | refine CH.cons rfl ?_
    | refine CH.nil ?_
    | refine CO.consG rfl ?_
    | refine CH.consG rfl ?_
    | refine CG.cons rfl ?_
    | refine CR.cons ?_
    | refine CR.nil ?_
    | refine CG.nil ?_
    | refine CG.consG rfl ?_
    | refine ⟨(rfl : plain _ = true), ?_⟩
    | refine ⟨(rfl : nilOk _ = some _), ?_⟩
    | refine ⟨_, ints_len (by assumption), ?_⟩
    | refine ⟨_, ints_addr (by assumption) (by omega) (by omega), ?_⟩
    | refine ⟨_, ints_load (by assumption) (by omega) (by omega), ?_⟩
    | refine ⟨(⟨by omega, by omega⟩ : inI64 _), ?_⟩
    | refine ⟨_, fun tm ha => step1_max rfl (ev_tmp ha rfl) (ev_tmp ha rfl), ?_⟩
    | refine ⟨_, fun tm ha => step1_min rfl (ev_tmp ha rfl) (ev_tmp ha rfl), ?_⟩
    | (refine ⟨fun _ => ?_, fun _ => ?_⟩ <;> first | (exfalso; omega) | skip)
    | fail
  refine (up_spec hB (by omega) hb8 (by omega)).mono ?_
  rintro r H9 ⟨⟨l, rfl, l0, l1⟩, hb9, x9⟩
  have lH9 := x9.1
  replace xx := xx.trans x9
  repeat' first
    | refine CO.cons rfl ?_
    | refine CO.nil ?_
    | refine CV.seq ?_
    | refine CV.region callees ?_
    | refine CV.cond ?_
    | refine CV.block ?_
    | refine CV.skip ?_
    | refine CV.exit ?_
    | refine CV.ret ?_
    | refine CV.scope ?_
    | refine CV.draw callees (by decide +kernel) ?_
    | refine CH.cons rfl ?_
    | refine CH.nil ?_
    | refine CO.consG rfl ?_
    | refine CH.consG rfl ?_
    | refine CG.cons rfl ?_
    | refine CR.cons ?_
    | refine CR.nil ?_
    | refine CG.nil ?_
    | refine CG.consG rfl ?_
    | refine ⟨(rfl : plain _ = true), ?_⟩
    | refine ⟨(rfl : nilOk _ = some _), ?_⟩
    | refine ⟨_, ints_len (by assumption), ?_⟩
    | refine ⟨_, ints_addr (by assumption) (by omega) (by omega), ?_⟩
    | refine ⟨_, ints_load (by assumption) (by omega) (by omega), ?_⟩
    | refine ⟨(⟨by omega, by omega⟩ : inI64 _), ?_⟩
    | refine ⟨_, fun tm ha => step1_max rfl (ev_tmp ha rfl) (ev_tmp ha rfl), ?_⟩
    | refine ⟨_, fun tm ha => step1_min rfl (ev_tmp ha rfl) (ev_tmp ha rfl), ?_⟩
    | refine ⟨_, _, build_vals [VI 0, VI l] un22 one3 rfl (Nat.le_of_ble_eq_true rfl), ?_⟩
    | (refine ⟨fun _ => ?_, fun _ => ?_⟩ <;> first | (exfalso; omega) | skip)
    | fail
  generalize hsH9 : Heap.new _ _ = Ha
  have hwH9 : Ints Ha (.slice (some ⟨H9.n, 0, none⟩) 2 0) [0, l] := by rw [← hsH9]; exact new_row rfl
  have knH9 := new_keep hsH9
  have hcH9 := hb9.keep knH9
  have llH9 := knH9.1
  replace xx := xx.trans (knH9.butX b)
  refine (pick_spec hB (by omega) hcH9 hwH9 (Nat.le_of_ble_eq_true rfl) (Nat.le_of_ble_eq_true rfl)).mono ?_
  rintro r Hb ⟨⟨i3, hi3, rfl⟩, hbb, xb⟩
  have lb := xb.1
  replace xx := xx.trans xb
  have t3 := two_at hi3 l0
  generalize ([0, l] : List Int)[i3]! = l' at t3 ⊢
  repeat' first
    | refine CO.cons rfl ?_
    | refine CO.nil ?_
    | refine CV.seq ?_
    | refine CV.region callees ?_
    | refine CV.cond ?_
    | refine CV.block ?_
    | refine CV.skip ?_
    | refine CV.exit ?_
    | refine CV.ret ?_
    | refine CV.scope ?_
    | refine CV.draw callees (by decide +kernel) ?_
    | refine CH.cons rfl ?_
    | refine CH.nil ?_
    | refine CO.consG rfl ?_
    | refine CH.consG rfl ?_
    | refine CG.cons rfl ?_
    | refine CR.cons ?_
    | refine CR.nil ?_
    | refine CG.nil ?_
    | refine CG.consG rfl ?_
    | refine ⟨(rfl : plain _ = true), ?_⟩
    | refine ⟨(rfl : nilOk _ = some _), ?_⟩
    | refine ⟨_, ints_len (by assumption), ?_⟩
    | refine ⟨_, ints_addr (by assumption) (by omega) (by omega), ?_⟩
    | refine ⟨_, ints_load (by assumption) (by omega) (by omega), ?_⟩
    | refine ⟨(⟨by omega, by omega⟩ : inI64 _), ?_⟩
    | refine ⟨_, fun tm ha => step1_max rfl (ev_tmp ha rfl) (ev_tmp ha rfl), ?_⟩
    | refine ⟨_, fun tm ha => step1_min rfl (ev_tmp ha rfl) (ev_tmp ha rfl), ?_⟩
    | (refine ⟨_, buildS, ?_⟩)
    | (refine ⟨_, _, allocS, ?_⟩)
    | (refine ⟨fun _ => ?_, fun _ => ?_⟩ <;> first | (exfalso; omega) | skip)
    | fail
  generalize hsd : Hb.new (Sc 0 0 0 0 0 (.slice none 0 0)) = Hd
  have hgd := new_get hsd
  have kd := new_keep hsd
  have nd := new_n hsd
  replace xx := xx.trans (kd.butX b)
  obtain ⟨bs, hbs⟩ : ∃ bs, Hb.n = bs := ⟨_, rfl⟩
  rw [hbs] at hgd nd ⊢
  refine ⟨_, _, storeS (k' := .slice none 0 0) rfl hgd, by omega, ?_⟩
  generalize hse : Hd.set bs (Sc a c w' n' l' (.slice none 0 0)) = He
  have hge := set_get hse
  have ne := set_n hse
  replace xx := keepX_put xx (by omega) (set_old hse) ne
  have hbe : Box b He := box_put (hbb.keep kd) (by omega) (set_old hse) ne
  repeat' first
    | refine CO.cons rfl ?_
    | refine CO.nil ?_
    | refine CV.seq ?_
    | refine CV.region callees ?_
    | refine CV.cond ?_
    | refine CV.block ?_
    | refine CV.skip ?_
    | refine CV.exit ?_
    | refine CV.ret ?_
    | refine CV.scope ?_
    | refine CV.draw callees (by decide +kernel) ?_
    | refine CH.cons rfl ?_
    | refine CH.nil ?_
    | refine CO.consG rfl ?_
    | refine CH.consG rfl ?_
    | refine CG.cons rfl ?_
    | refine CR.cons ?_
    | refine CR.nil ?_
    | refine CG.nil ?_
    | refine CG.consG rfl ?_
    | refine ⟨(rfl : plain _ = true), ?_⟩
    | refine ⟨(rfl : nilOk _ = some _), ?_⟩
    | refine ⟨_, ints_len (by assumption), ?_⟩
    | refine ⟨_, ints_addr (by assumption) (by omega) (by omega), ?_⟩
    | refine ⟨_, ints_load (by assumption) (by omega) (by omega), ?_⟩
    | refine ⟨(⟨by omega, by omega⟩ : inI64 _), ?_⟩
    | refine ⟨_, fun tm ha => step1_max rfl (ev_tmp ha rfl) (ev_tmp ha rfl), ?_⟩
    | refine ⟨_, fun tm ha => step1_min rfl (ev_tmp ha rfl) (ev_tmp ha rfl), ?_⟩
    | (refine ⟨fun _ => ?_, fun _ => ?_⟩ <;> first | (exfalso; omega) | skip)
    | fail
  refine (order_spec (n := 6) hB (by omega) hbe (by omega)).mono ?_
  rintro o Hf ⟨⟨os, ho, lo, hof⟩, hbf, xf⟩
  have lf := xf.1
  replace xx := xx.trans xf
  have hgf : Hf.get bs = some (Sc a c w' n' l' (.slice none 0 0)) := by rw [xf.2 bs (by omega) (by omega)]; exact hge
  repeat' first
    | refine CO.cons rfl ?_
    | refine CO.nil ?_
    | refine CV.seq ?_
    | refine CV.region callees ?_
    | refine CV.cond ?_
    | refine CV.block ?_
    | refine CV.skip ?_
    | refine CV.exit ?_
    | refine CV.ret ?_
    | refine CV.scope ?_
    | refine CV.draw callees (by decide +kernel) ?_
    | refine CH.cons rfl ?_
    | refine CH.nil ?_
    | refine CO.consG rfl ?_
    | refine CH.consG rfl ?_
    | refine CG.cons rfl ?_
    | refine CR.cons ?_
    | refine CR.nil ?_
    | refine CG.nil ?_
    | refine CG.consG rfl ?_
    | refine ⟨(rfl : plain _ = true), ?_⟩
    | refine ⟨(rfl : nilOk _ = some _), ?_⟩
    | refine ⟨_, ints_len (by assumption), ?_⟩
    | refine ⟨_, ints_addr (by assumption) (by omega) (by omega), ?_⟩
    | refine ⟨_, ints_load (by assumption) (by omega) (by omega), ?_⟩
    | refine ⟨(⟨by omega, by omega⟩ : inI64 _), ?_⟩
    | refine ⟨_, fun tm ha => step1_max rfl (ev_tmp ha rfl) (ev_tmp ha rfl), ?_⟩
    | refine ⟨_, fun tm ha => step1_min rfl (ev_tmp ha rfl) (ev_tmp ha rfl), ?_⟩
    | (refine ⟨fun _ => ?_, fun _ => ?_⟩ <;> first | (exfalso; omega) | skip)
    | fail
  refine (up_spec hB (by omega) hbf (by omega)).mono ?_
  rintro r Hg ⟨⟨m, rfl, m0, m1⟩, hbg, xg⟩
  have lg := xg.1
  replace xx := xx.trans xg
  have hgg : Hg.get bs = some (Sc a c w' n' l' (.slice none 0 0)) := by rw [xg.2 bs (by omega) (by omega)]; exact hgf
  have hog : Own 3 Hg o (os.map VI) He.n := own_box hof xg hbf
  have hoB : ∀ d, blkOf o = some d → d < Hg.n := fun d hd => (hog.lt hd).2
  repeat' first
    | refine CO.cons rfl ?_
    | refine CO.nil ?_
    | refine CV.seq ?_
    | refine CV.region callees ?_
    | refine CV.cond ?_
    | refine CV.block ?_
    | refine CV.skip ?_
    | refine CV.exit ?_
    | refine CV.ret ?_
    | refine CV.scope ?_
    | refine CV.draw callees (by decide +kernel) ?_
    | refine CH.cons rfl ?_
    | refine CH.nil ?_
    | refine CO.consG rfl ?_
    | refine CH.consG rfl ?_
    | refine CG.cons rfl ?_
    | refine CR.cons ?_
    | refine CR.nil ?_
    | refine CG.nil ?_
    | refine CG.consG rfl ?_
    | refine ⟨(rfl : plain _ = true), ?_⟩
    | refine ⟨(rfl : nilOk _ = some _), ?_⟩
    | refine ⟨_, ints_len (by assumption), ?_⟩
    | refine ⟨_, ints_addr (by assumption) (by omega) (by omega), ?_⟩
    | refine ⟨_, ints_load (by assumption) (by omega) (by omega), ?_⟩
    | refine ⟨(⟨by omega, by omega⟩ : inI64 _), ?_⟩
    | refine ⟨_, fun tm ha => step1_max rfl (ev_tmp ha rfl) (ev_tmp ha rfl), ?_⟩
    | refine ⟨_, fun tm ha => step1_min rfl (ev_tmp ha rfl) (ev_tmp ha rfl), ?_⟩
    | (refine ⟨fun _ => ?_, fun _ => ?_⟩ <;> first | (exfalso; omega) | skip)
    | fail
  refine CV.loopc ?_
  refine WCv.rounds callees false (α := Int × Value × List Int) (fun (i, kv, ks) => [(0, bp b), (2, .pointer (some ⟨H.n, 0, none⟩)), (3, .pointer (some ⟨bs, 0, none⟩)), (4, o), (5, .int .i64 i)]) (fun (i, kv, ks) Hz => (0 ≤ i ∧ (ks.length : Int) + i = m) ∧ Own 3 Hz kv (ks.map VI) Hg.n ∧ Box b Hz ∧ KeepX b H0 Hz ∧ Hz.get bs = some (Sc a c w' n' l' kv) ∧ Own 3 Hz o (os.map VI) He.n ∧ (∀ t, t < ks.length → ks[t]! = 1 + os[(m - t).toNat]!) ∧ Hg.n ≤ Hz.n) (fun (i, kv, ks) => i.toNat) (m, .slice none 0 0, []) (by repeat' first | exact trivial | refine ⟨rfl, ?_⟩ | refine ⟨slot_int (by (try simp only [Int.toNat_natCast]); omega), ?_⟩) ?_ ?_
  · exact ⟨⟨by omega, by simp⟩, .inl ⟨rfl, rfl⟩, hbg, xx, hgg, hog, fun t ht => by simp at ht, Nat.le_refl _⟩
  rintro ⟨i, kv, ks⟩ Hx ⟨⟨hi0, hi1⟩, hkv, hbx, xh, hgx, hox, hks, lx⟩ hBx
  by_cases hi : 0 < i
  · have hoi := ho.2 i.toNat (by omega)
    have hol : Ints Hx o os := hox.row
    repeat' first
      | refine CO.cons rfl ?_
      | refine CO.nil ?_
      | refine CV.seq ?_
      | refine CV.region callees ?_
      | refine CV.cond ?_
      | refine CV.block ?_
      | refine CV.skip ?_
      | refine CV.exit ?_
      | refine CV.ret ?_
      | refine CV.scope ?_
      | refine CV.draw callees (by decide +kernel) ?_
      | refine CH.cons rfl ?_
      | refine CH.nil ?_
      | refine CO.consG rfl ?_
      | refine CH.consG rfl ?_
      | refine CG.cons rfl ?_
      | refine CR.cons ?_
      | refine CR.nil ?_
      | refine CG.nil ?_
      | refine CG.consG rfl ?_
      | refine ⟨(rfl : plain _ = true), ?_⟩
      | refine ⟨(rfl : nilOk _ = some _), ?_⟩
      | refine ⟨_, ints_len (by assumption), ?_⟩
      | refine ⟨_, ints_addr (by assumption) (by omega) (by omega), ?_⟩
      | refine ⟨_, ints_load (by assumption) (by omega) (by omega), ?_⟩
      | refine ⟨(⟨by omega, by omega⟩ : inI64 _), ?_⟩
      | refine ⟨_, fun tm ha => step1_max rfl (ev_tmp ha rfl) (ev_tmp ha rfl), ?_⟩
      | refine ⟨_, fun tm ha => step1_min rfl (ev_tmp ha rfl) (ev_tmp ha rfl), ?_⟩
      | refine CV.ap callees rfl rfl [0, 1, 2, 3, 4, 5, 6, 7] (by kernel_rfl) ?_
      | (refine ⟨_, addrS (by decide), ?_⟩)
      | (refine ⟨_, cell_load ag22 hgx rfl, ?_⟩)
      | refine ⟨_, _, build_one un22 one3 rfl, ?_⟩
      | (refine ⟨fun _ => ?_, fun _ => ?_⟩ <;> first | (exfalso; omega) | skip)
      | fail
    refine push_ask hkv lx (by omega) (by omega) ?_
    intro k3 H3 hk3 kb3 hf3
    have hbsk : blkOf kv ≠ some bs := fun h => by have := (hkv.lt h).1; omega
    have hg3 : H3.get bs = some (Sc a c w' n' l' kv) := by rw [kb3.get bs (by omega) hbsk]; exact hgx
    have hb3 := hbx.keepBut kb3 (own_apartBox (H0 := H) hkv (by omega))
    have x3h := kb3.keepX xh fun d hd => by have := (hkv.lt hd).1; omega
    have ho3 : Own 3 H3 o (os.map VI) He.n := hox.keepBut kb3 (fun d hd h => by have := hoB d hd; have := (hkv.lt h).1; omega)
    have l3 := kb3.le
    repeat' first
      | refine CO.cons rfl ?_
      | refine CO.nil ?_
      | refine CV.seq ?_
      | refine CV.region callees ?_
      | refine CV.cond ?_
      | refine CV.block ?_
      | refine CV.skip ?_
      | refine CV.exit ?_
      | refine CV.ret ?_
      | refine CV.scope ?_
      | refine CV.draw callees (by decide +kernel) ?_
      | refine CH.cons rfl ?_
      | refine CH.nil ?_
      | refine CO.consG rfl ?_
      | refine CH.consG rfl ?_
      | refine CG.cons rfl ?_
      | refine CR.cons ?_
      | refine CR.nil ?_
      | refine CG.nil ?_
      | refine CG.consG rfl ?_
      | refine ⟨(rfl : plain _ = true), ?_⟩
      | refine ⟨(rfl : nilOk _ = some _), ?_⟩
      | refine ⟨_, ints_len (by assumption), ?_⟩
      | refine ⟨_, ints_addr (by assumption) (by omega) (by omega), ?_⟩
      | refine ⟨_, ints_load (by assumption) (by omega) (by omega), ?_⟩
      | refine ⟨(⟨by omega, by omega⟩ : inI64 _), ?_⟩
      | refine ⟨_, fun tm ha => step1_max rfl (ev_tmp ha rfl) (ev_tmp ha rfl), ?_⟩
      | refine ⟨_, fun tm ha => step1_min rfl (ev_tmp ha rfl) (ev_tmp ha rfl), ?_⟩
      | (refine ⟨_, addrS (by decide), ?_⟩)
      | (refine ⟨fun _ => ?_, fun _ => ?_⟩ <;> first | (exfalso; omega) | skip)
      | fail
    refine ⟨_, _, store_row (i := 5) sz22 hg3 (Nat.le_of_ble_eq_true rfl) hk3.row.oneC.1, by omega, ?_⟩
    generalize hst : H3.set bs (.cells (List.set [Value.int .i64 a, .int .i64 c, .int .i64 w', .int .i64 n', .int .i64 l', kv] 5 k3) 79 1) = H4
    have hg4 : H4.get bs = some (Sc a c w' n' l' k3) := set_get hst
    have n4 := set_n hst
    have xs4 : KeepX bs H3 H4 := by rw [← hst]; exact KeepX.set _ _
    have lk3 : (ks ++ [1 + os[i.toNat]!]).length = ks.length + 1 := by simp
    repeat' first
      | refine CO.cons rfl ?_
      | refine CO.nil ?_
      | refine CV.seq ?_
      | refine CV.region callees ?_
      | refine CV.cond ?_
      | refine CV.block ?_
      | refine CV.skip ?_
      | refine CV.exit ?_
      | refine CV.ret ?_
      | refine CV.scope ?_
      | refine CV.draw callees (by decide +kernel) ?_
      | refine CH.cons rfl ?_
      | refine CH.nil ?_
      | refine CO.consG rfl ?_
      | refine CH.consG rfl ?_
      | refine CG.cons rfl ?_
      | refine CR.cons ?_
      | refine CR.nil ?_
      | refine CG.nil ?_
      | refine CG.consG rfl ?_
      | refine ⟨(rfl : plain _ = true), ?_⟩
      | refine ⟨(rfl : nilOk _ = some _), ?_⟩
      | refine ⟨_, ints_len (by assumption), ?_⟩
      | refine ⟨_, ints_addr (by assumption) (by omega) (by omega), ?_⟩
      | refine ⟨_, ints_load (by assumption) (by omega) (by omega), ?_⟩
      | refine ⟨(⟨by omega, by omega⟩ : inI64 _), ?_⟩
      | refine ⟨_, fun tm ha => step1_max rfl (ev_tmp ha rfl) (ev_tmp ha rfl), ?_⟩
      | refine ⟨_, fun tm ha => step1_min rfl (ev_tmp ha rfl) (ev_tmp ha rfl), ?_⟩
      | (refine ⟨fun _ => ?_, fun _ => ?_⟩ <;> first | (exfalso; omega) | skip)
      | fail
    refine ⟨(i - 1, k3, ks ++ [1 + os[i.toNat]!]), (by repeat' first | exact trivial | refine ⟨rfl, ?_⟩ | refine ⟨slot_int (by (try simp only [Int.toNat_natCast]); omega), ?_⟩), (by (try dsimp only); omega), ?_⟩
    refine ⟨⟨by omega, by omega⟩, hk3.keepX xs4 hg3, box_put hb3 (by omega) (set_old hst) n4, keepX_put x3h (by omega) (set_old hst) n4, hg4, ho3.keepX xs4 hg3, fun t ht => ?_, by omega⟩
    by_cases htl : t < ks.length
    · rw [getElem!_pos _ t ht, List.getElem_append_left htl, ← getElem!_pos ks t htl]; exact hks t htl
    · have : t = ks.length := by omega
      subst this
      rw [getElem!_pos (ks ++ [1 + os[i.toNat]!]) ks.length ht, List.getElem_append_right (Nat.le_refl _)]
      simp only [Nat.sub_self, List.getElem_cons_zero]
      rw [show (m - (ks.length : Int)).toNat = i.toNat by omega]
  · have hv : Valid a c w' n' l' ks := by
      refine ⟨⟨by omega, by omega, by omega, by omega, by omega, by omega⟩, by omega, fun x y hx hy he => ?_, fun x hx => ?_⟩
      · rw [hks x hx, hks y hy] at he
        have := ho.1 (m - x).toNat (m - y).toNat (by omega) (by omega) (by omega)
        omega
      · rw [hks x hx]
        have := ho.2 (m - x).toNat (by omega)
        omega
    have hgrx : Hx.get H.n = some (Sc 0 0 0 0 0 (.slice none 0 0)) := by rw [xh.2 H.n (by omega) (by omega)]; exact hgr
    repeat' first
      | refine CO.cons rfl ?_
      | refine CO.nil ?_
      | refine CV.seq ?_
      | refine CV.region callees ?_
      | refine CV.cond ?_
      | refine CV.block ?_
      | refine CV.skip ?_
      | refine CV.exit ?_
      | refine CV.ret ?_
      | refine CV.scope ?_
      | refine CV.draw callees (by decide +kernel) ?_
      | refine CH.cons rfl ?_
      | refine CH.nil ?_
      | refine CO.consG rfl ?_
      | refine CH.consG rfl ?_
      | refine CG.cons rfl ?_
      | refine CR.cons ?_
      | refine CR.nil ?_
      | refine CG.nil ?_
      | refine CG.consG rfl ?_
      | refine ⟨(rfl : plain _ = true), ?_⟩
      | refine ⟨(rfl : nilOk _ = some _), ?_⟩
      | refine ⟨_, ints_len (by assumption), ?_⟩
      | refine ⟨_, ints_addr (by assumption) (by omega) (by omega), ?_⟩
      | refine ⟨_, ints_load (by assumption) (by omega) (by omega), ?_⟩
      | refine ⟨(⟨by omega, by omega⟩ : inI64 _), ?_⟩
      | refine ⟨_, fun tm ha => step1_max rfl (ev_tmp ha rfl) (ev_tmp ha rfl), ?_⟩
      | refine ⟨_, fun tm ha => step1_min rfl (ev_tmp ha rfl) (ev_tmp ha rfl), ?_⟩
      | (refine ⟨_, loadS hgx, ?_⟩)
      | (refine ⟨fun _ => ?_, fun _ => ?_⟩ <;> first | (exfalso; omega) | skip)
      | fail
    refine ⟨_, _, storeS hkv.row.oneC.1 hgrx, by omega, ?_⟩
    generalize hsz : Hx.set H.n (Sc a c w' n' l' kv) = Hy
    have hgy := set_get hsz
    have ny := set_n hsz
    have xy : KeepX H.n Hx Hy := by rw [← hsz]; exact KeepX.set _ _
    repeat' first
      | refine CO.cons rfl ?_
      | refine CO.nil ?_
      | refine CV.seq ?_
      | refine CV.region callees ?_
      | refine CV.cond ?_
      | refine CV.block ?_
      | refine CV.skip ?_
      | refine CV.exit ?_
      | refine CV.ret ?_
      | refine CV.scope ?_
      | refine CV.draw callees (by decide +kernel) ?_
      | refine CH.cons rfl ?_
      | refine CH.nil ?_
      | refine CO.consG rfl ?_
      | refine CH.consG rfl ?_
      | refine CG.cons rfl ?_
      | refine CR.cons ?_
      | refine CR.nil ?_
      | refine CG.nil ?_
      | refine CG.consG rfl ?_
      | refine ⟨(rfl : plain _ = true), ?_⟩
      | refine ⟨(rfl : nilOk _ = some _), ?_⟩
      | refine ⟨_, ints_len (by assumption), ?_⟩
      | refine ⟨_, ints_addr (by assumption) (by omega) (by omega), ?_⟩
      | refine ⟨_, ints_load (by assumption) (by omega) (by omega), ?_⟩
      | refine ⟨(⟨by omega, by omega⟩ : inI64 _), ?_⟩
      | refine ⟨_, fun tm ha => step1_max rfl (ev_tmp ha rfl) (ev_tmp ha rfl), ?_⟩
      | refine ⟨_, fun tm ha => step1_min rfl (ev_tmp ha rfl) (ev_tmp ha rfl), ?_⟩
      | (refine ⟨fun _ => ?_, fun _ => ?_⟩ <;> first | (exfalso; omega) | skip)
      | fail
    refine ⟨_, loadS hgy, rfl, ⟨a, c, w', n', l', kv, ks, rfl, hv, ?_⟩, box_put hbx (by omega) (set_old hsz) ny, keepX_put ((k0.butX b).trans xh) (Nat.le_refl _) (set_old hsz) ny⟩
    have := hkv.keepX xy hgrx
    rcases this with h | ⟨d, h1, h2, h3⟩
    · exact .inl h
    · exact .inr ⟨d, h1, by omega, h3⟩
end Go.Proofs.Ytlpkbcgdcimglaa.Sc

