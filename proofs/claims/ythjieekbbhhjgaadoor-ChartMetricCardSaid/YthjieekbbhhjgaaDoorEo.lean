/- Fields of structs: where they lie; variables of a few cells. -/
import Derived.Test.YthjieekbbhhjgaaDoorEm
namespace Go.AI
/-- Where a field lies, and how many cells it takes. -/
def fieldOff (P : Program) (s : TypeId) (f : Nat) : Option (Nat × Nat) :=
  match P.underlying s with
  | some (.struct fs) => match fs[f]? with
    | some fd => match sizeB P fd.type with
      | some n => some (fd.offset, n)
      | none => none
    | none => none
  | _ => none
theorem fieldOff_spec {P : Program} {s : TypeId} {f o n : Nat} (h : fieldOff P s f = some (o, n)) : ∃ fs fd, P.underlying s = some (.struct fs) ∧ fs[f]? = some fd ∧ sizeB P fd.type = some n ∧ fd.offset = o := by
  unfold fieldOff at h
  split at h
  · rename_i fs h1
    split at h
    · rename_i fd h2
      split at h
      · rename_i m h3
        cases h
        exact ⟨fs, fd, h1, h2, h3, rfl⟩
      · cases h
    · cases h
  · cases h
theorem field_addr {P : Program} {s : TypeId} {f o n : Nat} (h : fieldOff P s f = some (o, n)) (hn : n ≠ 0) {b i : Nat} : afieldAddr P s (.pointer (some ⟨b, i, none⟩)) f = some (.pointer (some ⟨b, i + o, none⟩)) := by
  obtain ⟨fs, fd, h1, h2, h3, rfl⟩ := fieldOff_spec h
  cases n with
  | zero => exact absurd rfl hn
  | succ n => simp only [afieldAddr, h1, h2, h3]
end Go.AI
