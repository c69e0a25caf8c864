/- Operations on plain values, one by one. -/
import Derived.Test.YthjieekbbhhjgaaDoorEj
namespace Go.AI
section
variable {P : Program} {tm : Tm} {H : Heap} {o : Oper}

theorem evT_of {x : Operand} {v : Value} (h : ev P tm x = some v) : evT tm x = v := by
  cases x with
  | tmp t => simpa [ev, evT] using h
  | const v => simp only [ev] at h; split at h <;> simp_all [evT]
  | global g => simp only [ev] at h; split at h <;> simp_all [evT]
  | func f => simpa [ev, evT] using h

theorem pureRun_bind {α β : Type} (m : Sem α) (f : α → Sem β) : pureRun P (m >>= f) = (pureRun P m).bind fun a => pureRun P (f a) := by
  show pureRun P (m.bind f) = _
  induction m with
  | pure a => rfl
  | program k ih => exact ih P
  | mark m k ih => exact ih
  | _ => rfl
theorem pureRun_pure {α : Type} (a : α) : pureRun P (pure a) = some a := rfl
theorem pureRun_underlying {t : TypeId} {d : TypeDesc} (h : P.underlying t = some d) : pureRun P (underlying t) = some d := by
  unfold underlying
  rw [pureRun_bind, show pureRun P program = some P from rfl]
  simp only [Option.bind_some, h]
  rfl

theorem apure_bin {op : BinOp} {t u : TypeId} {x y : Operand} {a b v : Value} (ho : o.op = .binOp op t x y u) (hx : ev P tm x = some a) (hy : ev P tm y = some b) (ha : plain a = true) (hb : plain b = true)
    (hg : pureRun P (eqGuard op t x y a b) = some ()) (h : pureRun P (binOp op t a b) = some v) (hv : plain v = true) : apure P tm o = some v := by
  unfold apure
  simp only [ho, Op.operands, execOp, evT_of hx, evT_of hy]
  rw [if_pos (by simp [hx, hy, ha, hb])]
  simp only [pureRun_bind, hg, h, Option.bind_some, pureRun_pure, hv, if_true]

theorem eqGuard_bool {op : BinOp} {t : TypeId} {x y : Operand} {a b : Bool} : pureRun P (eqGuard op t x y (.bool a) (.bool b)) = some () := by
  cases op <;> rfl
theorem eqGuard_int {op : BinOp} {t : TypeId} {x y : Operand} {k j : IntKind} {a b : Int} : pureRun P (eqGuard op t x y (.int k a) (.int j b)) = some () := by
  cases op <;> rfl
theorem eqGuard_str {op : BinOp} {t : TypeId} {x y : Operand} {a b : ByteArray} : pureRun P (eqGuard op t x y (.string a) (.string b)) = some () := by
  cases op <;> rfl
theorem equal_bool {t : TypeId} {a b : Bool} (ht : P.underlying t = some .bool) : pureRun P (Op.equal t (.bool a) (.bool b)) = some (a == b) := by
  unfold Op.equal
  rw [show Op.maxDepth = 9999 + 1 from rfl, Op.equalIn, pureRun_bind, pureRun_underlying ht]
  rfl
theorem step1_bin {op : BinOp} {t u : TypeId} {x y : Operand} {a b v : Value} (ho : o.op = .binOp op t x y u) (hx : ev P tm x = some a) (hy : ev P tm y = some b) (h : abin op a b = none) (hn : anil P t op a b = none) (hp : apure P tm o = some v) : step1 P tm H o = some (v, H, H.n) := by
  simp only [step1, ho, sBin, hx, hy, h, hn, hp, ret]
theorem step1_nil {op : BinOp} {t u : TypeId} {x y : Operand} {a b v : Value} (ho : o.op = .binOp op t x y u) (hx : ev P tm x = some a) (hy : ev P tm y = some b) (h : abin op a b = none) (hn : anil P t op a b = some v) : step1 P tm H o = some (v, H, H.n) := by
  simp only [step1, ho, sBin, hx, hy, h, hn]
theorem step1_boolEql {t u : TypeId} {x y : Operand} {a b : Bool} (ht : P.underlying t = some .bool) (ho : o.op = .binOp .eql t x y u) (hx : ev P tm x = some (.bool a)) (hy : ev P tm y = some (.bool b)) : step1 P tm H o = some (.bool (a == b), H, H.n) := by
  refine step1_bin ho hx hy rfl rfl (apure_bin ho hx hy rfl rfl eqGuard_bool ?_ rfl)
  rw [show binOp .eql t (.bool a) (.bool b) = (do pure (.bool (← Op.equal t (.bool a) (.bool b)))) from rfl, pureRun_bind, equal_bool ht]
  rfl
theorem step1_boolNeq {t u : TypeId} {x y : Operand} {a b : Bool} (ht : P.underlying t = some .bool) (ho : o.op = .binOp .neq t x y u) (hx : ev P tm x = some (.bool a)) (hy : ev P tm y = some (.bool b)) : step1 P tm H o = some (.bool (a != b), H, H.n) := by
  refine step1_bin ho hx hy rfl rfl (apure_bin ho hx hy rfl rfl eqGuard_bool ?_ rfl)
  rw [show binOp .neq t (.bool a) (.bool b) = (do pure (.bool (!(← Op.equal t (.bool a) (.bool b))))) from rfl, pureRun_bind, equal_bool ht]
  rfl
theorem step1_str {op : BinOp} {t u : TypeId} {x y : Operand} {a b : ByteArray} {v : Value} (ho : o.op = .binOp op t x y u) (hx : ev P tm x = some (.string a)) (hy : ev P tm y = some (.string b)) (h : pureRun P (Op.stringOp op a b) = some v) (hv : plain v = true) : step1 P tm H o = some (v, H, H.n) := by
  refine step1_bin ho hx hy rfl rfl (apure_bin ho hx hy rfl rfl eqGuard_str ?_ hv)
  rw [show binOp op t (.string a) (.string b) = Op.stringOp op a b by cases op <;> rfl]
  exact h
theorem step1_strEql {t u : TypeId} {x y : Operand} {a b : ByteArray} (ho : o.op = .binOp .eql t x y u) (hx : ev P tm x = some (.string a)) (hy : ev P tm y = some (.string b)) : step1 P tm H o = some (.bool (a.toList == b.toList), H, H.n) :=
  step1_str ho hx hy rfl rfl
theorem step1_strNeq {t u : TypeId} {x y : Operand} {a b : ByteArray} (ho : o.op = .binOp .neq t x y u) (hx : ev P tm x = some (.string a)) (hy : ev P tm y = some (.string b)) : step1 P tm H o = some (.bool (!(a.toList == b.toList)), H, H.n) :=
  step1_str ho hx hy rfl rfl
theorem step1_bits {op : BinOp} {t u : TypeId} {x y : Operand} {k : IntKind} {a b : Int} {v : Value} (hop : op = .xor ∨ op = .and ∨ op = .or ∨ op = .andNot) (ho : o.op = .binOp op t x y u) (hx : ev P tm x = some (.int k a)) (hy : ev P tm y = some (.int k b)) (h : pureRun P (Op.intBits op k a b) = some v) (hv : plain v = true) : step1 P tm H o = some (v, H, H.n) := by
  have h1 : abin op (.int k a) (.int k b) = none := by rcases hop with rfl | rfl | rfl | rfl <;> simp [abin]
  refine step1_bin ho hx hy h1 rfl (apure_bin ho hx hy rfl rfl eqGuard_int ?_ hv)
  rw [show binOp op t (.int k a) (.int k b) = Op.intBits op k a b by rcases hop with rfl | rfl | rfl | rfl <;> simp [binOp]]
  exact h
theorem step1_div {op : BinOp} {t u : TypeId} {x y : Operand} {k : IntKind} {a b : Int} {v : Value} (hop : op = .quo ∨ op = .rem) (ho : o.op = .binOp op t x y u) (hx : ev P tm x = some (.int k a)) (hy : ev P tm y = some (.int k b)) (h : pureRun P (Op.intDiv op k a b) = some v) (hv : plain v = true) : step1 P tm H o = some (v, H, H.n) := by
  have h1 : abin op (.int k a) (.int k b) = none := by rcases hop with rfl | rfl <;> simp [abin]
  refine step1_bin ho hx hy h1 rfl (apure_bin ho hx hy rfl rfl eqGuard_int ?_ hv)
  rw [show binOp op t (.int k a) (.int k b) = Op.intDiv op k a b by rcases hop with rfl | rfl <;> simp [binOp]]
  exact h
theorem step1_shr {t u : TypeId} {x y : Operand} {k j : IntKind} {a b : Int} (ho : o.op = .binOp .shr t x y u) (hx : ev P tm x = some (.int k a)) (hy : ev P tm y = some (.int j b)) (hb : 0 ≤ b) : step1 P tm H o = some (.int k (a.fdiv (2 ^ (min b.toNat k.bits))), H, H.n) := by
  refine step1_bin ho hx hy (by simp [abin]) rfl (apure_bin ho hx hy rfl rfl eqGuard_int ?_ rfl)
  rw [show binOp .shr t (.int k a) (.int j b) = Op.shift .shr k a j b from rfl, Op.shift, if_neg (by omega)]
  rfl
theorem step1_shl {t u : TypeId} {x y : Operand} {k j : IntKind} {a b : Int} (ho : o.op = .binOp .shl t x y u) (hx : ev P tm x = some (.int k a)) (hy : ev P tm y = some (.int j b)) (hb : 0 ≤ b) : step1 P tm H o = some (.int k (k.wrap (a * 2 ^ (min b.toNat k.bits))), H, H.n) := by
  refine step1_bin ho hx hy (by simp [abin]) rfl (apure_bin ho hx hy rfl rfl eqGuard_int ?_ rfl)
  rw [show binOp .shl t (.int k a) (.int j b) = Op.shift .shl k a j b from rfl, Op.shift, if_neg (by omega)]
  rfl
theorem step1_rem {t u : TypeId} {x y : Operand} {k : IntKind} {a b : Int} (ho : o.op = .binOp .rem t x y u) (hx : ev P tm x = some (.int k a)) (hy : ev P tm y = some (.int k b)) (hb : b ≠ 0) : step1 P tm H o = some (.int k (a.tmod b), H, H.n) :=
  step1_div (.inr rfl) ho hx hy (by rw [Op.intDiv, if_neg hb]; rfl) rfl
theorem step1_quo {t u : TypeId} {x y : Operand} {k : IntKind} {a b : Int} (ho : o.op = .binOp .quo t x y u) (hx : ev P tm x = some (.int k a)) (hy : ev P tm y = some (.int k b)) (hb : b ≠ 0) : step1 P tm H o = some (.int k (k.wrap (a.tdiv b)), H, H.n) :=
  step1_div (.inl rfl) ho hx hy (by rw [Op.intDiv, if_neg hb]; rfl) rfl
theorem step1_conv {s d : TypeId} {x : Operand} {j k : IntKind} {n : Int} {ds : TypeDesc} (hs : P.underlying s = some ds) (hd : P.underlying d = some (.int k)) (ho : o.op = .convert s d x) (hx : ev P tm x = some (.int j n)) : step1 P tm H o = some (.int k (k.wrap n), H, H.n) := by
  have h1 : pureRun P (convert s d (.int j n)) = some (.int k (k.wrap n)) := by
    unfold convert
    rw [pureRun_bind, pureRun_underlying hs, Option.bind_some, pureRun_bind, pureRun_underlying hd, Option.bind_some]
    rfl
  have h2 : apure P tm o = some (.int k (k.wrap n)) := by
    unfold apure
    simp only [ho, Op.operands, execOp, evT_of hx]
    rw [if_pos (by simp [hx, plain, flat, scalar])]
    simp only [pureRun_bind, h1, Option.bind_some, pureRun_pure]
    rfl
  simp only [step1, ho, sConvert, hx, h2, ret]
  rfl
theorem apure_builtin {b : Builtin} {x y : Operand} {ts : Array TypeId} {a c v : Value} (ho : o.op = .call ⟨.builtin b, #[x, y], ts⟩) (hx : ev P tm x = some a) (hy : ev P tm y = some c) (ha : plain a = true) (hc : plain c = true)
    (h : ∀ cs : Array Bool, pureRun P (builtin b ts o.type cs #[a, c]) = some (.value v)) (hv : plain v = true) : apure P tm o = some v := by
  unfold apure
  simp only [ho, Op.operands, execOp, resolve, pureRun_bind, pureRun_pure, Option.bind_some, invoke]
  rw [if_pos (by simp [Call.operands, hx, hy, ha, hc])]
  rw [show Array.map (evT tm) #[x, y] = #[a, c] by simp [evT_of hx, evT_of hy]]
  simp only [h, hv, if_true]
theorem step1_max {x y : Operand} {ts : Array TypeId} {k : IntKind} {a b : Int} (ho : o.op = .call ⟨.builtin .max, #[x, y], ts⟩) (hx : ev P tm x = some (.int k a)) (hy : ev P tm y = some (.int k b)) : step1 P tm H o = some (.int k (max a b), H, H.n) := by
  have : apure P tm o = some (.int k (if b > a then b else a)) := apure_builtin ho hx hy rfl rfl (fun _ => rfl) rfl
  simp only [step1, ho, sCall, sBuiltin, this, ret]
  congr 3
  split <;> omega
theorem step1_min {x y : Operand} {ts : Array TypeId} {k : IntKind} {a b : Int} (ho : o.op = .call ⟨.builtin .min, #[x, y], ts⟩) (hx : ev P tm x = some (.int k a)) (hy : ev P tm y = some (.int k b)) : step1 P tm H o = some (.int k (min a b), H, H.n) := by
  have : apure P tm o = some (.int k (if b < a then b else a)) := apure_builtin ho hx hy rfl rfl (fun _ => rfl) rfl
  simp only [step1, ho, sCall, sBuiltin, this, ret]
  congr 3
  split <;> omega
theorem ev_tmp {L : Kn} (ha : Agree tm L) {i : Nat} {v : Value} (h : L.get i = some v) : ev P tm (.tmp i) = some v := by
  simp only [ev, ha i v h]
end
end Go.AI
