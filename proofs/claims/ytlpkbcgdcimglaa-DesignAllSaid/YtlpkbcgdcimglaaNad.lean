
/- Kinds in another order have the same numbers. -/
import Derived.Test.YtlpkbcgdcimglaaRfd
set_option linter.unusedVariables false
set_option linter.unusedSimpArgs false
namespace Go.Proofs.Ytlpkbcgdcimglaa
open Go.AI
set_option linter.unusedVariables false
set_option linter.unusedSimpArgs false
/-- What stands at each place, and the list without it, summed up. -/
def sumS (T : Int → List Int → Int) : List Int → Int
  | [] => 0
  | x :: l => T x (0 :: l) + sumS (fun y m => T y (x :: m)) l
theorem sumS_congr : ∀ (l : List Int) {T T' : Int → List Int → Int}, (∀ x m, T x m = T' x m) → sumS T l = sumS T' l
  | [], _, _, _ => rfl
  | x :: l, T, T', h => by
    rw [sumS, sumS, h, sumS_congr l fun y m => h y (x :: m)]
theorem sumS_perm {l l' : List Int} (p : l.Perm l') : ∀ (T : Int → List Int → Int), (∀ x m m', m.Perm m' → T x m = T x m') → sumS T l = sumS T l' := by
  induction p with
  | nil => intro T _; rfl
  | cons x p ih =>
    intro T hT
    rw [sumS, sumS, hT x _ _ (p.cons 0), ih _ fun y m m' hp => hT y _ _ (hp.cons x)]
  | swap x y l =>
    intro T hT
    rw [sumS, sumS, sumS, sumS, hT y (0 :: x :: l) (x :: 0 :: l) (.swap x 0 l), hT x (y :: 0 :: l) (0 :: y :: l) (.swap 0 y l), sumS_congr l fun z m => hT z (y :: x :: m) (x :: y :: m) (.swap x y m)]
    omega
  | trans _ _ h1 h2 => intro T hT; rw [h1 T hT, h2 T hT]
theorem sumW_front (g : Nat → Int) : ∀ n, sumW g (n + 1) = g 0 + sumW (fun k => g (k + 1)) n
  | 0 => by simp [sumW]
  | n + 1 => by
    have h1 : sumW g (n + 1 + 1) = sumW g (n + 1) + g (n + 1) := rfl
    have h2 : sumW (fun k => g (k + 1)) (n + 1) = sumW (fun k => g (k + 1)) n + g (n + 1) := rfl
    rw [h1, h2, sumW_front g n]; omega
theorem sumW_S : ∀ (l : List Int) (T : Int → List Int → Int), sumW (fun k => T l[k]! (l.set k 0)) l.length = sumS T l
  | [], _ => rfl
  | x :: l, T => by
    rw [List.length_cons, sumW_front, sumS]
    have h1 := sumW_S l (fun y m => T y (x :: m))
    have h2 : (fun k => T (x :: l)[k + 1]! ((x :: l).set (k + 1) 0)) = fun k => T l[k]! (x :: l.set k 0) := by
      funext k
      have : (x :: l)[k + 1]! = l[k]! := by simp
      rw [this]; rfl
    rw [h2, h1]; rfl
theorem ways_perm (bl : List Int) : ∀ (f : Nat) (l l' : List Int), l.length = 6 → l.Perm l' → waysN bl f l = waysN bl f l'
  | 0, _, _, _, _ => rfl
  | f + 1, l, l', hl, p => by
    have hl' : l'.length = 6 := by rw [← p.length_eq]; exact hl
    rw [waysN, waysN]
    by_cases h0 : bl[8 - f]! = 0
    · rw [if_pos h0, if_pos h0]
    · rw [if_neg h0, if_neg h0]
      have h1 := sumW_S l (fun x m => if m.length = 6 then if x < bl[8 - f]! then 0 else drawnN x (bl[8 - f]!).toNat * waysN bl f m else 0)
      have h2 := sumW_S l' (fun x m => if m.length = 6 then if x < bl[8 - f]! then 0 else drawnN x (bl[8 - f]!).toNat * waysN bl f m else 0)
      simp only [List.length_set, hl, if_true] at h1
      simp only [List.length_set, hl', if_true] at h2
      rw [h1, h2]
      refine sumS_perm p _ fun x m m' hp => ?_
      by_cases h6 : m.length = 6
      · have h6' : m'.length = 6 := by rw [← hp.length_eq]; exact h6
        simp only [h6, h6', if_true, ways_perm bl f m m' h6 hp]
      · have h6' : ¬ m'.length = 6 := by rw [← hp.length_eq]; exact h6
        simp only [h6, h6', if_false]
theorem pad_perm {xs ys : List Int} (h : xs.Perm ys) : (pad xs).Perm (pad ys) := by
  unfold pad
  rw [h.length_eq]
  exact h.append_right _
theorem shapes_perm {xs ys : List Int} {n : Nat} (h : xs.Perm ys) (h6 : xs.length ≤ 6) : shapesL xs n = shapesL ys n := by
  unfold shapesL outL
  refine List.map_congr_left fun r _ => ?_
  simp only [ways_perm _ 9 _ _ (pad_len h6) (pad_perm h)]
theorem sumL_perm {xs ys : List Int} (h : xs.Perm ys) : sumL xs = sumL ys := by
  induction h with
  | nil => rfl
  | cons x _ ih => rw [sumL, sumL, ih]
  | swap x y l => simp only [sumL]; omega
  | trans _ _ h1 h2 => rw [h1, h2]
theorem max_perm {xs ys : List Int} {m : Int} (h : xs.Perm ys) (hm : IsMax xs m) : IsMax ys m := by
  obtain ⟨⟨k, hk, he⟩, ha⟩ := hm
  have h1 : m ∈ ys := h.mem_iff.1 (mem_at.2 ⟨k, hk, he⟩)
  obtain ⟨j, hj, hje⟩ := mem_at.1 h1
  refine ⟨⟨j, hj, hje⟩, fun i hi => ?_⟩
  obtain ⟨t, ht, hte⟩ := mem_at.1 (h.mem_iff.2 (mem_at.2 ⟨i, hi, rfl⟩))
  rw [← hte]; exact ha t ht
theorem max_uniq {xs : List Int} {m n : Int} (h1 : IsMax xs m) (h2 : IsMax xs n) : m = n := by
  obtain ⟨⟨k, hk, he⟩, ha⟩ := h1
  obtain ⟨⟨j, hj, hje⟩, hb⟩ := h2
  have := ha j hj
  have := hb k hk
  omega
theorem SV.perm {xs ys : List Int} {d : Int} (h : xs.Perm ys) (hS : SV xs d) : SV ys d := by
  obtain ⟨s1, s2, s3, s4, s5, s6⟩ := hS
  have hl := h.length_eq
  refine ⟨by omega, by omega, fun i hi => ?_, s4, s5, by rw [← sumL_perm h]; exact s6⟩
  obtain ⟨t, ht, hte⟩ := mem_at.1 (h.mem_iff.2 (mem_at.2 ⟨i, hi, rfl⟩))
  rw [← hte]; exact s3 t ht
/-- The first numbers. -/
def natsI (n : Nat) : List Int := (List.range n).map fun (i : Nat) => (i : Int)
theorem nats_succ (n : Nat) : natsI (n + 1) = natsI n ++ [(n : Int)] := by simp [natsI, List.range_succ]
theorem nats_len (n : Nat) : (natsI n).length = n := by simp [natsI]
theorem perm_push {l : List Int} (h : l.Perm (natsI l.length)) : (l ++ [(l.length : Int)]).Perm (natsI (l.length + 1)) := by
  rw [nats_succ]; exact h.append_right _
theorem perm_swap {l : List Int} {i k : Nat} (hi : i < l.length) (hk : k < l.length) : ((l.set i l[k]!).set k l[i]!).Perm l := by
  rw [getElem!_pos l i hi, getElem!_pos l k hk]
  exact List.set_set_perm hi hk
theorem nats_map (xs : List Int) : (natsI xs.length).map (fun x => xs[x.toNat]!) = xs := by
  refine List.ext_getElem (by simp [nats_len]) fun i h1 h2 => ?_
  have : (natsI xs.length)[i]'(by simpa using h1) = (i : Int) := by simp [natsI]
  rw [List.getElem_map, this, getElem!_pos _ _ (by omega)]
  rfl
set_option maxRecDepth 100000 in
set_option maxHeartbeats 4000000 in
theorem orderP_spec {B b : Nat} {H : Heap} {n : Nat} (hB : B ≤ b) (hn : B ≤ H.n) (hb : Box b H) (h9 : n ≤ 100) :
    CallB Try.prog B 64 [bp b, .int .i64 (n : Int)] H (fun r H' => (∃ xs : List Int, xs.Perm (natsI xs.length) ∧ xs.length = n ∧ Own 3 H' r (xs.map VI) H.n) ∧ Box b H' ∧ KeepX b H H') := by
  refine CV.enter callees false rfl Try.func64 rfl (by kernel_rfl) (Nat.le_of_ble_eq_true rfl) hn ?_
  repeat' first
    | refine CO.cons rfl ?_
    | refine CO.nil ?_
    | refine CV.seq ?_
    | refine CV.region callees ?_
    | refine CV.cond ?_
    | refine CV.block ?_
    | refine CV.skip ?_
    | refine CV.exit ?_
    | refine CV.ret ?_
    | refine CV.scope ?_
    | refine CV.draw callees (by decide +kernel) ?_
    | refine CH.cons rfl ?_
    | refine CH.nil ?_
    | refine CO.consG rfl ?_
    | refine CH.consG rfl ?_
    | refine CG.cons rfl ?_
    | refine CR.cons ?_
    | refine CR.nil ?_
    | refine CG.nil ?_
    | refine CG.consG rfl ?_
    | refine ⟨(rfl : plain _ = true), ?_⟩
    | refine ⟨(rfl : nilOk _ = some _), ?_⟩
    | refine ⟨_, ints_len (by assumption), ?_⟩
    | refine ⟨_, ints_addr (by assumption) (by omega) (by omega), ?_⟩
    | refine ⟨_, ints_load (by assumption) (by omega) (by omega), ?_⟩
    | refine ⟨(⟨by omega, by omega⟩ : inI64 _), ?_⟩
    | refine ⟨_, fun tm ha => step1_max rfl (ev_tmp ha rfl) (ev_tmp ha rfl), ?_⟩
    | refine ⟨_, fun tm ha => step1_min rfl (ev_tmp ha rfl) (ev_tmp ha rfl), ?_⟩
    | (refine ⟨fun _ => ?_, fun _ => ?_⟩ <;> first | (exfalso; omega) | skip)
    | fail
  refine CV.loopc ?_
  refine WCv.rounds callees false (α := Value × List Int) (fun (l, xs) => [(0, bp b), (1, .int .i64 n), (5, l), (6, .int .i64 xs.length)]) (fun (l, xs) Hz => xs.Perm (natsI xs.length) ∧ xs.length ≤ n ∧ Own 3 Hz l (xs.map VI) H.n ∧ Box b Hz ∧ KeepX b H Hz) (fun (l, xs) => n - xs.length) (.slice none 0 0, []) (by repeat' first | exact trivial | refine ⟨rfl, ?_⟩ | refine ⟨slot_int (by (try simp only [Int.toNat_natCast]); omega), ?_⟩) ?_ ?_
  · exact ⟨.refl _, by simp, .inl ⟨rfl, rfl⟩, hb, KeepX.refl _ _⟩
  rintro ⟨l, xs⟩ Hx ⟨ho, hlen, hl, hbx, hkx⟩ hBx
  by_cases hi : xs.length < n
  · repeat' first
      | refine CO.cons rfl ?_
      | refine CO.nil ?_
      | refine CV.seq ?_
      | refine CV.region callees ?_
      | refine CV.cond ?_
      | refine CV.block ?_
      | refine CV.skip ?_
      | refine CV.exit ?_
      | refine CV.ret ?_
      | refine CV.scope ?_
      | refine CV.draw callees (by decide +kernel) ?_
      | refine CH.cons rfl ?_
      | refine CH.nil ?_
      | refine CO.consG rfl ?_
      | refine CH.consG rfl ?_
      | refine CG.cons rfl ?_
      | refine CR.cons ?_
      | refine CR.nil ?_
      | refine CG.nil ?_
      | refine CG.consG rfl ?_
      | refine ⟨(rfl : plain _ = true), ?_⟩
      | refine ⟨(rfl : nilOk _ = some _), ?_⟩
      | refine ⟨_, ints_len (by assumption), ?_⟩
      | refine ⟨_, ints_addr (by assumption) (by omega) (by omega), ?_⟩
      | refine ⟨_, ints_load (by assumption) (by omega) (by omega), ?_⟩
      | refine ⟨(⟨by omega, by omega⟩ : inI64 _), ?_⟩
      | refine ⟨_, fun tm ha => step1_max rfl (ev_tmp ha rfl) (ev_tmp ha rfl), ?_⟩
      | refine ⟨_, fun tm ha => step1_min rfl (ev_tmp ha rfl) (ev_tmp ha rfl), ?_⟩
      | (refine ⟨fun _ => ?_, fun _ => ?_⟩ <;> first | (exfalso; omega) | skip)
      | fail
    refine (up_spec hB hBx hbx (by omega)).mono ?_
    rintro r H2 ⟨⟨x, rfl, hx0, hx1⟩, hb2, hk2⟩
    have hl2 := own_box hl hk2 hbx
    have hkx2 := hkx.trans hk2
    repeat' first
      | refine CO.cons rfl ?_
      | refine CO.nil ?_
      | refine CV.seq ?_
      | refine CV.region callees ?_
      | refine CV.cond ?_
      | refine CV.block ?_
      | refine CV.skip ?_
      | refine CV.exit ?_
      | refine CV.ret ?_
      | refine CV.scope ?_
      | refine CV.draw callees (by decide +kernel) ?_
      | refine CH.cons rfl ?_
      | refine CH.nil ?_
      | refine CO.consG rfl ?_
      | refine CH.consG rfl ?_
      | refine CG.cons rfl ?_
      | refine CR.cons ?_
      | refine CR.nil ?_
      | refine CG.nil ?_
      | refine CG.consG rfl ?_
      | refine ⟨(rfl : plain _ = true), ?_⟩
      | refine ⟨(rfl : nilOk _ = some _), ?_⟩
      | refine ⟨_, ints_len (by assumption), ?_⟩
      | refine ⟨_, ints_addr (by assumption) (by omega) (by omega), ?_⟩
      | refine ⟨_, ints_load (by assumption) (by omega) (by omega), ?_⟩
      | refine ⟨(⟨by omega, by omega⟩ : inI64 _), ?_⟩
      | refine ⟨_, fun tm ha => step1_max rfl (ev_tmp ha rfl) (ev_tmp ha rfl), ?_⟩
      | refine ⟨_, fun tm ha => step1_min rfl (ev_tmp ha rfl) (ev_tmp ha rfl), ?_⟩
      | refine ⟨_, _, build_one un22 one3 rfl, ?_⟩
      | (refine ⟨fun _ => ?_, fun _ => ?_⟩ <;> first | (exfalso; omega) | skip)
      | fail
    refine push_ask hl2 hkx2.1 hn (by omega) ?_
    intro l3 H3 hl3 kb3 hf3
    have hb3 := hb2.keepBut kb3 (own_apartBox (H0 := H) hl2 hb.1)
    have hkx3 := kb3.keepX hkx2 fun c hc => (hl2.lt hc).1
    have hp := perm_push ho
    obtain ⟨ys, hys⟩ : ∃ ys, xs ++ [(xs.length : Int)] = ys := ⟨_, rfl⟩
    rw [hys] at hl3 hp
    have ly : ys.length = xs.length + 1 := by rw [← hys]; simp
    have hli : Ints H3 l3 ys := hl3.row
    have hxk : ys[(xs.length : Int).toNat]! = ys[xs.length]! := rfl
    repeat' first
      | refine CO.cons rfl ?_
      | refine CO.nil ?_
      | refine CV.seq ?_
      | refine CV.region callees ?_
      | refine CV.cond ?_
      | refine CV.block ?_
      | refine CV.skip ?_
      | refine CV.exit ?_
      | refine CV.ret ?_
      | refine CV.scope ?_
      | refine CV.draw callees (by decide +kernel) ?_
      | refine CH.cons rfl ?_
      | refine CH.nil ?_
      | refine CO.consG rfl ?_
      | refine CH.consG rfl ?_
      | refine CG.cons rfl ?_
      | refine CR.cons ?_
      | refine CR.nil ?_
      | refine CG.nil ?_
      | refine CG.consG rfl ?_
      | refine ⟨(rfl : plain _ = true), ?_⟩
      | refine ⟨(rfl : nilOk _ = some _), ?_⟩
      | refine ⟨_, ints_len (by assumption), ?_⟩
      | refine ⟨_, ints_addr (by assumption) (by omega) (by omega), ?_⟩
      | refine ⟨_, ints_load (by assumption) (by omega) (by omega), ?_⟩
      | refine ⟨(⟨by omega, by omega⟩ : inI64 _), ?_⟩
      | refine ⟨_, fun tm ha => step1_max rfl (ev_tmp ha rfl) (ev_tmp ha rfl), ?_⟩
      | refine ⟨_, fun tm ha => step1_min rfl (ev_tmp ha rfl) (ev_tmp ha rfl), ?_⟩
      | (refine ⟨fun _ => ?_, fun _ => ?_⟩ <;> first | (exfalso; omega) | skip)
      | fail
    refine put_ask (i := xs.length) hl3 hn (by omega) ?_
    intro H4 hl4 kb4
    repeat' first
      | refine CO.cons rfl ?_
      | refine CO.nil ?_
      | refine CV.seq ?_
      | refine CV.region callees ?_
      | refine CV.cond ?_
      | refine CV.block ?_
      | refine CV.skip ?_
      | refine CV.exit ?_
      | refine CV.ret ?_
      | refine CV.scope ?_
      | refine CV.draw callees (by decide +kernel) ?_
      | refine CH.cons rfl ?_
      | refine CH.nil ?_
      | refine CO.consG rfl ?_
      | refine CH.consG rfl ?_
      | refine CG.cons rfl ?_
      | refine CR.cons ?_
      | refine CR.nil ?_
      | refine CG.nil ?_
      | refine CG.consG rfl ?_
      | refine ⟨(rfl : plain _ = true), ?_⟩
      | refine ⟨(rfl : nilOk _ = some _), ?_⟩
      | refine ⟨_, ints_len (by assumption), ?_⟩
      | refine ⟨_, ints_addr (by assumption) (by omega) (by omega), ?_⟩
      | refine ⟨_, ints_load (by assumption) (by omega) (by omega), ?_⟩
      | refine ⟨(⟨by omega, by omega⟩ : inI64 _), ?_⟩
      | refine ⟨_, fun tm ha => step1_max rfl (ev_tmp ha rfl) (ev_tmp ha rfl), ?_⟩
      | refine ⟨_, fun tm ha => step1_min rfl (ev_tmp ha rfl) (ev_tmp ha rfl), ?_⟩
      | (refine ⟨fun _ => ?_, fun _ => ?_⟩ <;> first | (exfalso; omega) | skip)
      | fail
    refine put_ask (i := x.toNat) hl4 hn (by rw [List.length_set]; omega) ?_
    intro H5 hl5 kb5
    have hb4 := hb3.keepBut kb4 (own_apartBox (H0 := H) hl3 hb.1)
    have hkx4 := kb4.keepX hkx3 fun c hc => (hl3.lt hc).1
    have hb5 := hb4.keepBut kb5 (own_apartBox (H0 := H) hl4 hb.1)
    have hkx5 := kb5.keepX hkx4 fun c hc => (hl4.lt hc).1
    have hsw := perm_swap (l := ys) (i := xs.length) (k := x.toNat) (by omega) (by omega)
    have lz : ((ys.set xs.length ys[x.toNat]!).set x.toNat ys[xs.length]!).length = ys.length := by rw [List.length_set, List.length_set]
    have hpz : ((ys.set xs.length ys[x.toNat]!).set x.toNat ys[xs.length]!).Perm (natsI ((ys.set xs.length ys[x.toNat]!).set x.toNat ys[xs.length]!).length) := by
      rw [lz, ly]; exact hsw.trans hp
    repeat' first
      | refine CO.cons rfl ?_
      | refine CO.nil ?_
      | refine CV.seq ?_
      | refine CV.region callees ?_
      | refine CV.cond ?_
      | refine CV.block ?_
      | refine CV.skip ?_
      | refine CV.exit ?_
      | refine CV.ret ?_
      | refine CV.scope ?_
      | refine CV.draw callees (by decide +kernel) ?_
      | refine CH.cons rfl ?_
      | refine CH.nil ?_
      | refine CO.consG rfl ?_
      | refine CH.consG rfl ?_
      | refine CG.cons rfl ?_
      | refine CR.cons ?_
      | refine CR.nil ?_
      | refine CG.nil ?_
      | refine CG.consG rfl ?_
      | refine ⟨(rfl : plain _ = true), ?_⟩
      | refine ⟨(rfl : nilOk _ = some _), ?_⟩
      | refine ⟨_, ints_len (by assumption), ?_⟩
      | refine ⟨_, ints_addr (by assumption) (by omega) (by omega), ?_⟩
      | refine ⟨_, ints_load (by assumption) (by omega) (by omega), ?_⟩
      | refine ⟨(⟨by omega, by omega⟩ : inI64 _), ?_⟩
      | refine ⟨_, fun tm ha => step1_max rfl (ev_tmp ha rfl) (ev_tmp ha rfl), ?_⟩
      | refine ⟨_, fun tm ha => step1_min rfl (ev_tmp ha rfl) (ev_tmp ha rfl), ?_⟩
      | (refine ⟨fun _ => ?_, fun _ => ?_⟩ <;> first | (exfalso; omega) | skip)
      | fail
    refine ⟨(l3, (ys.set xs.length ys[x.toNat]!).set x.toNat ys[xs.length]!), (by repeat' first | exact trivial | refine ⟨rfl, ?_⟩ | refine ⟨slot_int (by (try simp only [Int.toNat_natCast]); omega), ?_⟩), (by (try dsimp only); omega), ?_⟩
    exact ⟨hpz, by omega, hl5, hb5, hkx5⟩
  · repeat' first
      | refine CO.cons rfl ?_
      | refine CO.nil ?_
      | refine CV.seq ?_
      | refine CV.region callees ?_
      | refine CV.cond ?_
      | refine CV.block ?_
      | refine CV.skip ?_
      | refine CV.exit ?_
      | refine CV.ret ?_
      | refine CV.scope ?_
      | refine CV.draw callees (by decide +kernel) ?_
      | refine CH.cons rfl ?_
      | refine CH.nil ?_
      | refine CO.consG rfl ?_
      | refine CH.consG rfl ?_
      | refine CG.cons rfl ?_
      | refine CR.cons ?_
      | refine CR.nil ?_
      | refine CG.nil ?_
      | refine CG.consG rfl ?_
      | refine ⟨(rfl : plain _ = true), ?_⟩
      | refine ⟨(rfl : nilOk _ = some _), ?_⟩
      | refine ⟨_, ints_len (by assumption), ?_⟩
      | refine ⟨_, ints_addr (by assumption) (by omega) (by omega), ?_⟩
      | refine ⟨_, ints_load (by assumption) (by omega) (by omega), ?_⟩
      | refine ⟨(⟨by omega, by omega⟩ : inI64 _), ?_⟩
      | refine ⟨_, fun tm ha => step1_max rfl (ev_tmp ha rfl) (ev_tmp ha rfl), ?_⟩
      | refine ⟨_, fun tm ha => step1_min rfl (ev_tmp ha rfl) (ev_tmp ha rfl), ?_⟩
      | (refine ⟨fun _ => ?_, fun _ => ?_⟩ <;> first | (exfalso; omega) | skip)
      | fail
    exact ⟨by simp only [List.all_cons, List.all_nil, hl.notTuple]; rfl, ⟨xs, ho, by omega, hl⟩, hbx, hkx⟩
end Go.Proofs.Ytlpkbcgdcimglaa
