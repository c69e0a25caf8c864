
/- The blocks of all partitions. -/
import Derived.Test.YtlpkbcgdcimglaaR7d
set_option linter.unusedVariables false
set_option linter.unusedSimpArgs false
namespace Go.AI
theorem zeros_rep (z : List Value) (hz : 0 < z.length) : ∀ n, zeros z.toArray (n * z.length) = (List.replicate n z).flatten
  | 0 => by simp [zeros]
  | n + 1 => by
    rw [List.replicate_succ', List.flatten_append, ← zeros_rep z hz n, Nat.succ_mul]
    unfold zeros
    rw [List.range_add, List.map_append]
    congr 1
    apply List.ext_getElem
    · simp
    · intro i h1 h2
      have hi : i < z.length := by simpa using h2
      simp [Nat.mul_add_mod_self_right, Nat.mod_eq_of_lt hi, hi]
theorem make_rows {P : Program} {H : Heap} {t e : TypeId} {z : List Value} {by' : Nat} (ht : P.underlying t = some (.slice e)) (h1 : zeroBB P e = some (z, by')) (hb : by' ≤ 1000) (n : Nat) (hn : n ≤ 1000000) :
    amakeSlice P H t (.int .i64 n) (.int .i64 n) = some (.slice (some ⟨H.n, 0, none⟩) n 0, H.new (.cells (List.replicate n z).flatten e 2), H.n) := by
  obtain ⟨info, zv, hi, hz, hs, h0, hc, hsc, hby⟩ := zeroBB_spec h1
  have hmul : info.bytes * n ≤ 1000 * 1000000 := Nat.mul_le_mul (by omega) hn
  simp only [amakeSlice, ht, hi, hz]
  rw [if_pos (by
    refine ⟨by omega, by omega, by omega, by have h := Int.ofNat_le.2 hmul; rw [Int.natCast_mul] at h; omega, by omega, by rw [hc, hs]; simp, by rw [hc]; simpa using hsc⟩)]
  simp only [anew, Int.toNat_natCast, hs, hc, zeros_rep z h0]
end Go.AI
