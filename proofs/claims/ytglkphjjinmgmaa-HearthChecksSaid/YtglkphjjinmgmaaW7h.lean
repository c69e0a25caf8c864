
/- Rows of structs that are made at once, and written whole. -/
import Derived.Test.YtglkphjjinmgmaaQ1bh
set_option linter.unusedVariables false
set_option linter.unusedSimpArgs false
namespace Go.AI
theorem flat_put {s : Nat} {row : List Value} : ∀ {rs : List (List Value)} {j : Nat}, (∀ r ∈ rs, r.length = s) → j < rs.length → rs.flatten.take (j * s) ++ row ++ rs.flatten.drop (j * s + s) = (rs.set j row).flatten
  | r :: rs, 0, h, _ => by
    have hr := h r (by simp)
    subst hr
    simp
  | r :: rs, j + 1, h, hj => by
    have hr := h r (by simp)
    subst hr
    have ih := flat_put (row := row) (rs := rs) (j := j) (fun q hq => h q (by simp [hq])) (by simpa using hj)
    rw [List.set_cons_succ, List.flatten_cons, List.flatten_cons, ← ih]
    have e1 : (j + 1) * r.length = r.length + j * r.length := by rw [Nat.succ_mul]; omega
    have e2 : (j + 1) * r.length + r.length = r.length + (j * r.length + r.length) := by rw [Nat.succ_mul]; omega
    rw [e2, e1, List.take_length_add_append, List.drop_length_add_append]
    simp [List.append_assoc]
theorem rstore_askS {P : Program} {H : Heap} {e ft : TypeId} {K : Heap → Prop} {B B0 s : Nat} {x : Value} {row : List Value} {rs : List (List Value)} {j : Nat} (hs : sizeB P ft = some s) (hx : OwnS e s H x rs B0) (hB : B ≤ B0) (hj : j < rs.length) (hr : row.length = s) (hw : row.all oneC = true)
    (hk : ∀ H', OwnS e s H' x (rs.set j row) B0 → KeepBut x H H' → K H') :
    ∃ H' b, astore P ft H (.agg row.toArray) (elemS x s j) = some (H', b) ∧ B ≤ b ∧ K H' := by
  rcases hx.2 with ⟨rfl, rfl⟩ | ⟨b0, rfl, h2, h3, h4⟩
  · simp at hj
  · have hm : (j + 1) * s ≤ rs.length * s := Nat.mul_le_mul_right _ hj
    rw [Nat.succ_mul] at hm
    have hst : astore P ft H (.agg row.toArray) (elemS (.slice (some ⟨b0, 0, none⟩) rs.length 0) s j) = some (H.set b0 (.cells (rs.set j row).flatten e 2), b0) := by
      have h1 : (Value.agg row.toArray).cells = row.toArray := rfl
      simp only [astore, elemS, h4, h1, hs, spliceQ_eq, Nat.zero_add]
      rw [if_pos ⟨by simp [hr], by rw [flat_len hx.1]; simp [hr]; omega, rfl, by simpa using hw⟩, splice_all _ _ _ (by rw [flat_len hx.1, hr]; omega), hr, flat_put hx.1 hj]
    refine ⟨_, _, hst, Nat.le_trans hB h2, hk _ ⟨fun q hq => ?_, .inr ⟨b0, by simp, h2, h3, by rw [Heap.get_set_eq]⟩⟩ ⟨Nat.le_refl _, fun c hc hne => Heap.get_set_ne _ _ fun h => hne (by rw [h]; rfl)⟩⟩
    rcases List.mem_or_eq_of_mem_set hq with h | h
    · exact hx.1 q h
    · rw [h]; exact hr
end Go.AI
namespace Go.AI
theorem zeros_rep (z : List Value) (hz : 0 < z.length) : ∀ n, zeros z.toArray (n * z.length) = (List.replicate n z).flatten
  | 0 => by simp [zeros]
  | n + 1 => by
    rw [List.replicate_succ', List.flatten_append, ← zeros_rep z hz n, Nat.succ_mul]
    unfold zeros
    rw [List.range_add, List.map_append]
    congr 1
    apply List.ext_getElem
    · simp
    · intro i h1 h2
      have hi : i < z.length := by simpa using h2
      simp [Nat.mul_add_mod_self_right, Nat.mod_eq_of_lt hi, hi]
theorem make_rows {P : Program} {H : Heap} {t e : TypeId} {z : List Value} {by' : Nat} (ht : P.underlying t = some (.slice e)) (h1 : zeroBB P e = some (z, by')) (hb : by' ≤ 1000) (n : Nat) (hn : n ≤ 1000000) :
    amakeSlice P H t (.int .i64 n) (.int .i64 n) = some (.slice (some ⟨H.n, 0, none⟩) n 0, H.new (.cells (List.replicate n z).flatten e 2), H.n) := by
  obtain ⟨info, zv, hi, hz, hs, h0, hc, hsc, hby⟩ := zeroBB_spec h1
  have hmul : info.bytes * n ≤ 1000 * 1000000 := Nat.mul_le_mul (by omega) hn
  simp only [amakeSlice, ht, hi, hz]
  rw [if_pos (by
    refine ⟨by omega, by omega, by omega, by have h := Int.ofNat_le.2 hmul; rw [Int.natCast_mul] at h; omega, by omega, by rw [hc, hs]; simp, by rw [hc]; simpa using hsc⟩)]
  simp only [anew, Int.toNat_natCast, hs, hc, zeros_rep z h0]
end Go.AI
namespace Go.Proofs.Ytglkphjjinmgmaa
open Go.AI
set_option maxRecDepth 100000 in
theorem pick_spec {B b : Nat} {H : Heap} {v : Value} {xs : List Int} (hB : B ≤ b) (hn : B ≤ H.n) (hb : Box b H) (hv : Ints H v xs) (h0 : 0 < xs.length) (h9 : xs.length ≤ 1000) :
    CallB Try.prog B 66 [bp b, v] H (fun r H' => (∃ i, i < xs.length ∧ r = .int .i64 xs[i]!) ∧ Box b H' ∧ KeepX b H H') := by
  refine CV.enter callees false rfl Try.func66 rfl (by kernel_rfl) (Nat.le_of_ble_eq_true rfl) hn ?_
  repeat' first
    | refine CO.cons rfl ?_
    | refine CO.nil ?_
    | refine CV.seq ?_
    | refine CV.region callees ?_
    | refine CV.cond ?_
    | refine CV.skip ?_
    | refine ⟨_, ints_len (by assumption), ?_⟩
    | (refine ⟨fun _ => ?_, fun _ => ?_⟩ <;> first | (exfalso; omega) | skip)
    | fail
  refine (up_spec hB hn hb (by omega)).mono ?_
  rintro r H2 ⟨⟨x, rfl, hx0, hx1⟩, hb2, hk2⟩
  have hv2 : Ints H2 v xs := row_box hv hk2 hb
  repeat' first
    | refine CO.cons rfl ?_
    | refine CO.nil ?_
    | refine CV.ret ?_
    | refine ⟨_, ints_addr (by assumption) (by omega) (by omega), ?_⟩
    | refine ⟨_, ints_load (by assumption) (by omega) (by omega), ?_⟩
    | fail
  exact ⟨rfl, ⟨x.toNat, by omega, rfl⟩, hb2, hk2⟩

end Go.Proofs.Ytglkphjjinmgmaa

