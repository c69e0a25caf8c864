/- Several texts in one. -/
import Derived.Test.YtglkphjjinmgmaaM6h
set_option linter.unusedVariables false
set_option linter.unusedSimpArgs false
namespace Go.Proofs.Ytglkphjjinmgmaa
open Go.AI
def loopG (F:Nat->Option (List Int)):Nat->Nat->Option (List Int)
  | 0,_=>none
  | k + 1,i=>match F i with
    | some s=>some s
    | none=>loopG F k (i + 1)
def tryG (En:List Int->Bool) (n:Nat):Nat->List Int->Nat->Option (List Int)
  | 0,c,_=>if En c = true then some c else none
  | m + 1,c,f=>loopG (fun j=>tryG En n m (c ++ [(j:Int)]) (j + 1)) (n - f) f
def fewG (En:List Int->Bool) (n:Nat):Option (List Int):=loopG (fun s=>tryG En n s [] 0) (n + 1) 0
theorem loopG_some {F:Nat->Option (List Int)} {s:List Int}:∀ {k i:Nat},loopG F k i = some s->∃ j,i<=j∧j < i + k∧F j = some s∧∀ j',i<=j'->j' < j->F j' = none
  | 0,i,h=>by simp [loopG] at h
  | k + 1,i,h=>by
    rw [loopG] at h
    cases hF:F i with
    | some s' =>
      rw [hF] at h
      exact ⟨i,Nat.le_refl _,by omega,by rw [hF]; exact h,fun j' h1 h2=>by omega⟩
    | none =>
      rw [hF] at h
      obtain ⟨j,h1,h2,h3,h4⟩:=loopG_some h
      refine ⟨j,by omega,by omega,h3,fun j' h5 h6=>?_⟩
      by_cases e:j' = i
      · rw [e]; exact hF
      · exact h4 j' (by omega) h6
theorem loopG_none {F:Nat->Option (List Int)}:∀ {k i:Nat},loopG F k i = none->∀ j,i<=j->j < i + k->F j = none
  | 0,i,_,j,h1,h2=>by omega
  | k + 1,i,h,j,h1,h2=>by
    rw [loopG] at h
    cases hF:F i with
    | some s'=>rw [hF] at h; cases h
    | none =>
      rw [hF] at h
      by_cases e:j = i
      · rw [e]; exact hF
      · exact loopG_none h j (by omega) (by omega)
theorem loopG_step {F:Nat->Option (List Int)} {k i:Nat} (h:F i = none):loopG F (k + 1) i = loopG F k (i + 1):=by rw [loopG,h]
theorem loopG_hit {F:Nat->Option (List Int)} {k i:Nat} {s:List Int} (h:F i = some s):loopG F (k + 1) i = some s:=by rw [loopG,h]
def Asc (n:Nat):Nat->List Int->Prop
  | _,[]=>True
  | f,x :: t=>(f:Int)<=x∧x < n∧Asc n (x.toNat + 1) t
def lessB:List Int->List Int->Bool
  | a :: x,b :: y=>if a = b then lessB x y else decide (a < b)
  | _,_=>false
theorem asc_len {n:Nat}:∀ {t:List Int} {f:Nat},f<=n->Asc n f t->t.length + f<=n
  | [],f,h,_=>by simpa using h
  | x :: t,f,h,h1=>by
    have a:=h1.1
    have b:=h1.2.1
    have:=asc_len (f:=x.toNat + 1) (by omega) h1.2.2
    rw [List.length_cons]; omega
theorem asc_in {n:Nat}:∀ {t:List Int} {f:Nat},Asc n f t->∀ x ∈ t,(f:Int)<=x∧x < n
  | [],_,_,x,hx=>by cases hx
  | y :: t,f,h,x,hx=>by
    rcases List.mem_cons.1 hx with rfl | hx
    · exact ⟨h.1,h.2.1⟩
    · have:=asc_in h.2.2 x hx
      have:=h.1
      omega
theorem asc_snoc {n:Nat}:∀ {t:List Int} {f j:Nat},Asc n f t->f<=j->j < n->(∀ x ∈ t,x < (j:Int))->Asc n f (t ++ [(j:Int)])
  | [],f,j,_,h1,h2,_=>⟨by omega,by omega,trivial⟩
  | y :: t,f,j,h,h1,h2,h3=>⟨h.1,h.2.1,asc_snoc h.2.2 (by have:=h3 y (by simp); have:=h.1; omega) h2 fun x hx=>h3 x (by simp [hx])⟩
theorem tryG_none {En:List Int->Bool} {n:Nat}:∀ {m:Nat} {c:List Int} {f:Nat},tryG En n m c f = none->f<=n->∀ t,t.length = m->Asc n f t->En (c ++ t) = false
  | 0,c,f,h,_,t,ht,_=>by
    rw [tryG] at h
    obtain rfl:=List.length_eq_zero_iff.1 ht
    rw [List.append_nil]
    split at h
    · cases h
    · rename_i h1; simpa using h1
  | m + 1,c,f,h,hf,t,ht,ha=>by
    rw [tryG] at h
    cases t with
    | nil=>simp at ht
    | cons x t =>
      obtain ⟨a,b,d⟩:=ha
      have h1:=loopG_none h x.toNat (by omega) (by omega)
      have hx:((x.toNat:Nat):Int) = x:=by omega
      have h2:=tryG_none (m:=m) h1 (by omega) t (by simpa using ht) d
      rw [hx] at h2
      simpa using h2
theorem tryG_some {En:List Int->Bool} {n:Nat} {s:List Int}:∀ {m:Nat} {c:List Int} {f:Nat},tryG En n m c f = some s->f<=n->∃ t,s = c ++ t∧t.length = m∧Asc n f t∧En s = true∧∀ t',t'.length = m->Asc n f t'->En (c ++ t') = true->lessB t' t = false
  | 0,c,f,h,_=>by
    rw [tryG] at h
    split at h
    · rename_i h1
      obtain rfl:=Option.some.inj h
      refine ⟨[],(List.append_nil _).symm,rfl,trivial,h1,fun t' ht' _ _=>?_⟩
      obtain rfl:=List.length_eq_zero_iff.1 ht'
      rfl
    · cases h
  | m + 1,c,f,h,hf=>by
    rw [tryG] at h
    obtain ⟨j,h1,h2,h3,h4⟩:=loopG_some h
    obtain ⟨t,e1,e2,e3,e4,e5⟩:=tryG_some (m:=m) h3 (by omega)
    refine ⟨(j:Int) :: t,by rw [e1]; simp,by rw [List.length_cons,e2],⟨by omega,by omega,by simpa using e3⟩,e4,fun t' ht' ha' hE=>?_⟩
    cases t' with
    | nil=>simp at ht'
    | cons x t' =>
      obtain ⟨a,b,d⟩:=ha'
      have hx:((x.toNat:Nat):Int) = x:=by omega
      rw [lessB]
      by_cases e:x = (j:Int)
      · rw [if_pos e]
        subst e
        exact e5 t' (by simpa using ht') (by simpa using d) (by simpa using hE)
      · rw [if_neg e]
        by_cases l:x < (j:Int)
        · have h6:=tryG_none (m:=m) (h4 x.toNat (by omega) (by omega)) (by omega) t' (by simpa using ht') d
          rw [hx] at h6
          have h7:En (c ++ x :: t') = false:=by simpa using h6
          rw [h7] at hE; cases hE
        · exact decide_eq_false l
theorem few_some {En:List Int->Bool} {n:Nat} {s:List Int} (h:fewG En n = some s):Asc n 0 s∧En s = true∧∀ t,Asc n 0 t->En t = true->s.length<=t.length∧(t.length = s.length->lessB t s = false):=by
  obtain ⟨j,h1,h2,h3,h4⟩:=loopG_some h
  obtain ⟨t,e1,e2,e3,e4,e5⟩:=tryG_some h3 (Nat.zero_le _)
  rw [List.nil_append] at e1
  subst e1
  refine ⟨e3,e4,fun t' ha hE=>⟨?_,fun hl=>e5 t' (by omega) ha (by simpa using hE)⟩⟩
  apply Nat.le_of_not_lt
  intro hl
  have:=tryG_none (h4 t'.length (Nat.zero_le _) (by omega)) (Nat.zero_le _) t' rfl ha
  rw [List.nil_append,hE] at this; cases this
def posI (c:List Int) (a:Int):Int:=if a ∈ c then (c.idxOf a:Int) else -1
def onlyC (cs:List Co) (c:List Int):List Co:=c.map fun i=>cs[i.toNat]!
def posT (c:List Int) (t:Int × Int):List (Int × Int):=if 0<=posI c t.1∧0<=posI c t.2 then [(posI c t.1,posI c t.2)] else []
def onlyT (ts:List (Int × Int)) (c:List Int):List (Int × Int):=ts.flatMap (posT c)
theorem posI_lt {c:List Int} {a:Int}:posI c a < c.length ∨ c = []:=by
  unfold posI
  split
  · rename_i h; left; have:=List.idxOf_lt_length_of_mem h; omega
  · cases c with
    | nil=>right; rfl
    | cons x t=>left; rw [List.length_cons]; omega
theorem posI_inj {c:List Int} {a b:Int} (h0:0<=posI c a) (h:posI c a = posI c b):a = b:=by
  unfold posI at h h0
  split at h
  · rename_i ha
    split at h
    · rename_i hb
      have e:c.idxOf a = c.idxOf b:=by omega
      have h1:=List.getElem_idxOf (List.idxOf_lt_length_of_mem ha)
      have h2:=List.getElem_idxOf (List.idxOf_lt_length_of_mem hb)
      rw [<- h1,<- h2]
      simp only [e]
    · omega
  · rw [if_neg (by assumption)] at h0; omega
theorem posT_len {c:List Int} {t:Int × Int}:(posT c t).length<=1:=by unfold posT; split<;>simp
theorem onlyT_len {c:List Int}:∀ {ts:List (Int × Int)},(onlyT ts c).length<=ts.length
  | []=>Nat.le_refl _
  | t :: ts=>by
    have:=onlyT_len (c:=c) (ts:=ts)
    have h:=posT_len (c:=c) (t:=t)
    show (posT c t ++ onlyT ts c).length<=_
    rw [List.length_append,List.length_cons]; omega
theorem only_ok {cs:List Co} {ts:List (Int × Int)} {c:List Int} (hf:FOk cs ts) (hc:Asc cs.length 0 c):FOk (onlyC cs c) (onlyT ts c):=by
  have hl:=asc_len (Nat.zero_le _) hc
  have hn:=hf.n
  have hol:(onlyC cs c).length = c.length:=by simp [onlyC]
  refine ⟨by omega,fun i hi=>?_,Nat.le_trans onlyT_len hf.m,fun i hi=>?_⟩
  · have hi':i < c.length:=by omega
    have e:(onlyC cs c)[i]! = cs[c[i].toNat]!:=by rw [getElem!_pos _ i hi]; simp [onlyC]
    rw [e]
    have:=asc_in hc c[i] (List.getElem_mem hi')
    exact hf.c _ (by omega)
  · rw [getElem!_pos _ i hi,hol]
    have hm:=List.getElem_mem hi
    obtain ⟨t,ht,hp⟩:=List.mem_flatMap.1 hm
    unfold posT at hp
    split at hp
    · rename_i h
      rw [List.mem_singleton] at hp
      rw [hp]
      obtain ⟨q,hq,e⟩:=List.getElem_of_mem ht
      have h3:=hf.t q hq
      rw [getElem!_pos _ q hq,e] at h3
      have a:=posI_lt (c:=c) (a:=t.1)
      have b:=posI_lt (c:=c) (a:=t.2)
      have z:c ≠ []:=fun hz=>by
        have:=h.1; rw [hz] at this; simp [posI] at this
      refine ⟨⟨h.1,a.resolve_right z⟩,⟨h.2,b.resolve_right z⟩,fun e=>h3.2.2 (posI_inj h.1 e)⟩
    · cases hp
open Classical in
/-- Whether a choice is enough. -/
noncomputable def enB (k:Ke) (cs:List Co) (ts:List (Int × Int)) (ps:List Po) (fr to:Nat) (c:List Int):Bool :=
  decide (∃ B0 B1,IsBeg 0 (onlyC cs c) (onlyT ts c) B0∧IsBeg 1 (onlyC cs c) (onlyT ts c) B1∧∀ m,fr<=m->m<=to->verN k (warmM k (emL (onlyC cs c) B0 B1) ps m) = 1)
open Classical in
theorem enB_iff {k:Ke} {cs:List Co} {ts:List (Int × Int)} {ps:List Po} {fr to:Nat} {c:List Int} {B0 B1:List Int} (hf:FOk cs ts) (hc:Asc cs.length 0 c) (h0:IsBeg 0 (onlyC cs c) (onlyT ts c) B0) (h1:IsBeg 1 (onlyC cs c) (onlyT ts c) B1) :
    enB k cs ts ps fr to c = true ↔ ∀ m,fr<=m->m<=to->verN k (warmM k (emL (onlyC cs c) B0 B1) ps m) = 1:=by
  have ho:=only_ok hf hc
  unfold enB
  rw [decide_eq_true_iff]
  constructor
  · rintro ⟨A0,A1,a0,a1,h⟩
    obtain rfl:=IsBeg.one ho a0 h0
    obtain rfl:=IsBeg.one ho a1 h1
    exact h
  · intro h
    exact ⟨B0,B1,h0,h1,h⟩
set_option maxRecDepth 100000 in
theorem index_spec {B:Nat} {H:Heap} {v:Value} {xs:List Int} {t:Int} (hB:B<=H.n) (hv:Ints H v xs) (hn:xs.length < 1000000) :
    CallB Try.prog B 101 [v,.int .i64 t] H (fun r H'=>r = VJ (posI xs t)∧H' = H):=by
  unfold posI
  refine CV.enter callees false rfl Try.func101 rfl (by kernel_rfl) (Nat.le_of_ble_eq_true rfl) hB ?_
  repeat' first | refine CO.cons rfl ?_ | refine CO.nil ?_ | refine CV.seq ?_ | refine CV.region callees ?_ | refine CV.block ?_ | refine ⟨_,ints_len (by assumption),?_⟩ | fail
  refine CV.loopc ?_
  refine WCv.rounds callees false (α:=Nat) (fun i=>[(0,v),(1,.int .i64 t),(7,.int .i64 xs.length),(8,.int .i64 i)]) (fun i Hz=>Hz = H∧i<=xs.length∧t ∉ xs.take i) (fun i=>xs.length - i) (0) (by repeat' first | exact trivial | refine ⟨rfl,?_⟩ | refine ⟨slot_int (by (try simp only [Int.toNat_natCast]); omega),?_⟩) ?_ ?_
  · exact ⟨rfl,by omega,by simp⟩
  rintro i Hx ⟨rfl,hi,hno⟩ hBx
  by_cases hi2:i < xs.length
  · have hm:xs[i]! ∈ xs:=by rw [getElem!_pos xs i hi2]; exact List.getElem_mem _
    have hsn:xs.take (i + 1) = xs.take i ++ [xs[i]!]:=by rw [List.take_add_one,List.getElem?_eq_getElem hi2,getElem!_pos xs i hi2]; rfl
    have hxi:xs[(i:Int).toNat]! = xs[i]!:=rfl
    repeat' first | refine CO.cons rfl ?_ | refine CO.nil ?_ | refine CV.seq ?_ | refine CV.region callees ?_ | refine CV.cond ?_ | refine CV.block ?_ | refine CV.skip ?_ | refine CV.ret ?_ | refine ⟨_,ints_addr (by assumption) (by omega) (by omega),?_⟩ | refine ⟨_,ints_load (by assumption) (by omega) (by omega),?_⟩ | refine ⟨(⟨by omega,by omega⟩:inI64 _),?_⟩ | (refine ⟨fun _=>?_,fun _=>?_⟩<;>try (exfalso; omega)) | fail
    · rename_i h1
      have h1:t = xs[i]!:=by first | exact h1 | omega
      refine ⟨rfl,?_,rfl⟩
      rw [if_pos (by rw [h1]; exact hm)]
      have hd:xs = xs.take i ++ xs.drop i:=(List.take_append_drop i xs).symm
      have hdd:xs.drop i = t :: xs.drop (i + 1):=by rw [List.drop_eq_getElem_cons hi2,h1,getElem!_pos xs i hi2]
      have:xs.idxOf t = i:=by
        rw [hd,List.idxOf_append,if_neg hno,hdd,List.idxOf_cons_self,List.length_take]; omega
      rw [this]
    · rename_i h1
      have h1:¬ t = xs[i]!:=by first | exact h1 | omega
      refine ⟨(i + 1),(by repeat' first | exact trivial | refine ⟨rfl,?_⟩ | refine ⟨slot_int (by (try simp only [Int.toNat_natCast]); omega),?_⟩),(by (try dsimp only); omega),?_⟩
      refine ⟨rfl,by omega,?_⟩
      rw [hsn,List.mem_append,List.mem_singleton]
      exact fun h=>h.elim hno h1
  · have:i = xs.length:=by omega
    subst this
    rw [List.take_length] at hno
    repeat' first | refine CO.cons rfl ?_ | refine CO.nil ?_ | refine CV.seq ?_ | refine CV.region callees ?_ | refine CV.cond ?_ | refine CV.exit ?_ | refine CV.ret ?_ | (refine ⟨fun _=>?_,fun _=>?_⟩<;>try (exfalso; omega)) | fail
    exact ⟨rfl,by rw [if_neg hno],rfl⟩
theorem onlyC_snoc {cs:List Co} {c:List Int} {i:Nat} (h:i < c.length):onlyC cs (c.take (i + 1)) = onlyC cs (c.take i) ++ [cs[c[i]!.toNat]!]:=by
  unfold onlyC
  rw [List.take_add_one,List.getElem?_eq_getElem h,List.map_append,getElem!_pos c i h]
  rfl
theorem onlyT_snoc {ts:List (Int × Int)} {c:List Int} {i:Nat} (h:i < ts.length):onlyT (ts.take (i + 1)) c = onlyT (ts.take i) c ++ posT c ts[i]!:=by
  unfold onlyT
  rw [List.take_add_one,List.getElem?_eq_getElem h,List.flatMap_append,getElem!_pos ts i h]
  simp
set_option maxHeartbeats 8000000 in
set_option maxRecDepth 100000 in
theorem only_spec {B:Nat} {H:Heap} {cv tv qv:Value} {cs:List Co} {ts:List (Int × Int)} {c:List Int} (hB:B<=H.n) (hc:RowS 7 H cv (cs.map Col)) (ht:RowS 2 H tv (ts.map Hl)) (hq:Ints H qv c) (hf:FOk cs ts) (ha:Asc cs.length 0 c) :
    CallB Try.prog B 87 [Fv cv tv,qv] H (fun r H'=>(∃ u w,r = Fv u w∧OwnC H' u (onlyC cs c) H.n∧OwnT H' w (onlyT ts c) H.n)∧Keep H H'):=by
  have hn12:=hf.n
  have hm40:=hf.m
  have hcl:=asc_len (Nat.zero_le _) ha
  refine CV.enter callees false rfl Try.func87 rfl (by kernel_rfl) (Nat.le_of_ble_eq_true rfl) hB ?_
  repeat' first | refine CO.cons rfl ?_ | refine CV.seq ?_ | refine CV.region callees ?_ | fail
  refine ⟨(by simp only [notTuple]),?_⟩
  rw [allocFv hc.cells.1 ht.cells.1]
  generalize hs0:Heap.new H _ = H0
  have hg0:=new_get hs0
  have k0:=new_keep hs0
  have n0:=new_n hs0
  obtain ⟨b0,hbn0⟩:∃ b,Heap.n H = b:=⟨_,rfl⟩
  rw [hbn0] at hg0 n0 ⊢
  repeat' first | refine CO.cons rfl ?_ | fail
  refine ⟨_,_,al28,?_⟩
  generalize hs1:Heap.new H0 _ = H1
  have hg1:=new_get hs1
  have k1:=new_keep hs1
  have n1:=new_n hs1
  obtain ⟨b1,hbn1⟩:∃ b,Heap.n H0 = b:=⟨_,rfl⟩
  rw [hbn1] at hg1 n1 ⊢
  repeat' first | refine CO.cons rfl ?_ | refine CO.nil ?_ | refine CV.seq ?_ | refine CV.region callees ?_ | fail
  refine ⟨_,_,al28,?_⟩
  generalize hs2:Heap.new H1 _ = H2
  have hg2:=new_get hs2
  have k2:=new_keep hs2
  have n2:=new_n hs2
  obtain ⟨b2,hbn2⟩:∃ b,Heap.n H1 = b:=⟨_,rfl⟩
  rw [hbn2] at hg2 n2 ⊢
  have k02:Keep H H2:=(k0.trans k1).trans k2
  have hg02:=((k1.trans k2).2 b0 (by omega)).trans hg0
  have hg12:=(k2.2 b1 (by omega)).trans hg1
  have hq2:Ints H2 qv c:=Row.keep hq k02
  repeat' first | refine CO.cons rfl ?_ | refine CO.nil ?_ | refine CV.seq ?_ | refine CV.region callees ?_ | refine CV.block ?_ | refine ⟨_,ints_len (by assumption),?_⟩ | fail
  have hg22:=hg2
  refine CV.loopc ?_
  refine WCv.rounds callees false (α:=Value × Nat) (fun (u,i)=>[(1,qv),(2,.pointer (some ⟨b0,0,none⟩)),(4,.pointer (some ⟨b1,0,none⟩)),(5,.pointer (some ⟨b2,0,none⟩)),(12,qv),(13,VJ c.length),(14,VJ i)]) (fun (u,i) Hz=>i<=c.length∧KeepX b2 H2 Hz∧Hz.get b2 = some (.cells (Fl u nilS) 25 1)∧OwnC Hz u (onlyC cs (c.take i)) H2.n) (fun (u,i)=>c.length - i) (nilS,0) (by repeat' first | exact trivial | refine ⟨rfl,?_⟩ | refine ⟨slot_int (by (try simp only [Int.toNat_natCast]); omega),?_⟩) ?_ ?_
  · exact ⟨by omega,⟨Nat.le_refl _,fun _ _ _=>rfl⟩,hg2,OwnS.nil⟩
  rintro ⟨u,i⟩ Hx ⟨hi,xx,hgx,hu⟩ hBx
  have lx:=xx.1
  have kx:Keep H Hx:=⟨by have:=k02.1; omega,fun q hq=>(xx.2 q (by omega) (by omega)).trans (k02.2 q hq)⟩
  have hg0x:=(xx.2 b0 (by omega) (by omega)).trans hg02
  have hg1x:=(xx.2 b1 (by omega) (by omega)).trans hg12
  have hqx:Ints Hx qv c:=Row.keep hq kx
  have hcx:=hc.keep kx
  have htx:=ht.keep kx
  by_cases hi2:i < c.length
  · have hin:=asc_in ha c[i]! (by rw [getElem!_pos c i hi2]; exact List.getElem_mem _)
    have hxi:c[(i:Int).toNat]! = c[i]!:=rfl
    obtain ⟨x,hx⟩:∃ x,c[i]! = x:=⟨_,rfl⟩
    have hgN:(Hx.new (.cells (Col cs[x.toNat]!) 32 2)).get b2 = some (.cells (Fl u nilS) 25 1):=((Keep.new Hx _).2 b2 (by omega)).trans hgx
    rw [hx] at hin hxi
    repeat' first | refine CO.cons rfl ?_ | refine CO.nil ?_ | refine CV.seq ?_ | refine CV.region callees ?_ | refine CV.cond ?_ | refine CV.block ?_ | refine CV.skip ?_ | refine ⟨_,ints_addr (by assumption) (by omega) (by omega),?_⟩ | refine ⟨_,ints_load (by assumption) (by omega) (by omega),?_⟩ | (refine ⟨fun _=>?_,fun _=>?_⟩<;>try (exfalso; omega)) | fail
    rw [hxi]
    repeat' first | refine CO.cons rfl ?_ | refine CG.cons rfl ?_ | refine CG.nil ?_ | refine CV.ap callees rfl rfl [0,1,2,3,4,5,6,7] (by kernel_rfl) ?_ | refine ⟨_,fS foF0 (by decide),?_⟩ | refine ⟨_,cell_load ag25 hgx rfl,?_⟩ | refine ⟨_,cell_load ag25 hg0x rfl,?_⟩ | refine ⟨_,cs_addr hcx (by omega) (by omega),?_⟩ | refine ⟨_,cs_load hcx (by omega),?_⟩ | refine ⟨_,_,co_one,?_⟩ | fail
    refine co_push hu (by omega) (by omega) (by simp [onlyC]; omega) ?_
    intro u' H3 hu3 kb3 hf3
    have l3:=kb3.le
    have hqa:∀ q,blkOf u = some q->H2.n<=q:=fun q hq=>(hu.lt hq).1
    have hg3:=(kb3.get b2 (by omega) (fun h=>by have:=hqa _ h; omega)).trans hgx
    have x3:=kb3.keepX xx fun q hq=>by have:=hqa _ hq; omega
    repeat' first | refine CO.cons rfl ?_ | refine ⟨_,fS foF0 (by decide),?_⟩ | fail
    refine ⟨_,_,store_row (i:=0) sz25 hg3 (by show 0 < 2; decide) hu3.oneC,by omega,?_⟩
    generalize hsA:Heap.set H3 b2 _ = HA
    have hgA:HA.get b2 = some (.cells (Fl u' nilS) 25 1):=set_get hsA
    have nA:=set_n hsA
    have oA:=set_old hsA
    repeat' first | refine CO.cons rfl ?_ | refine CO.nil ?_ | refine CV.region callees ?_ | refine ⟨(⟨by omega,by omega⟩:inI64 _),?_⟩ | fail
    refine ⟨(u',i + 1),(by repeat' first | exact trivial | refine ⟨rfl,?_⟩ | refine ⟨slot_int (by (try simp only [Int.toNat_natCast]); omega),?_⟩),(by (try dsimp only); omega),?_⟩
    have kA:KeepX b2 H3 HA:=⟨by omega,fun q hq hql=>oA q hql⟩
    exact ⟨by omega,x3.trans kA,hgA,by rw [onlyC_snoc hi2,hx]; exact OwnS.keepX hu3 kA hg3⟩
  obtain rfl:i = c.length:=by omega
  rw [List.take_length] at hu
  clear hg02 hg12 hq2 hg22
  repeat' first | refine CO.cons rfl ?_ | refine CO.nil ?_ | refine CV.seq ?_ | refine CV.region callees ?_ | refine CV.cond ?_ | refine CV.block ?_ | refine CV.exit ?_ | refine ⟨_,fS foF1 (by decide),?_⟩ | refine ⟨_,cell_load ag26 hg0x rfl,?_⟩ | refine ⟨_,ts_len htx,?_⟩ | (refine ⟨fun _=>?_,fun _=>?_⟩<;>try (exfalso; omega)) | fail
  refine CV.loopc ?_
  refine WCv.rounds callees false (α:=Value × Nat) (fun (w,i)=>[(1,qv),(2,.pointer (some ⟨b0,0,none⟩)),(4,.pointer (some ⟨b1,0,none⟩)),(5,.pointer (some ⟨b2,0,none⟩)),(30,tv),(31,VJ ts.length),(32,VJ i)]) (fun (w,i) Hz=>i<=ts.length∧KeepX b2 Hx Hz∧Hz.get b2 = some (.cells (Fl u w) 25 1)∧OwnT Hz w (onlyT (ts.take i) c) Hx.n) (fun (w,i)=>ts.length - i) (nilS,0) (by repeat' first | exact trivial | refine ⟨rfl,?_⟩ | refine ⟨slot_int (by (try simp only [Int.toNat_natCast]); omega),?_⟩) ?_ ?_
  · exact ⟨by omega,⟨Nat.le_refl _,fun _ _ _=>rfl⟩,hgx,OwnS.nil⟩
  rintro ⟨w,i⟩ Hy ⟨hi,xy,hgy,hw⟩ hBy
  have ly:=xy.1
  have ky:Keep H Hy:=⟨by have:=kx.1; omega,fun q hq=>(xy.2 q (by omega) (by omega)).trans (kx.2 q hq)⟩
  have hg0y:=(xy.2 b0 (by omega) (by omega)).trans hg0x
  have hg1y:=(xy.2 b1 (by omega) (by omega)).trans hg1x
  have hqy:Ints Hy qv c:=Row.keep hq ky
  have hty:=ht.keep ky
  have huq:∀ q,blkOf u = some q->H2.n<=q∧q < Hx.n:=fun q hq=>⟨(hu.lt hq).1,(hu.lt hq).2⟩
  have huy:OwnC Hy u (onlyC cs c) H2.n:=OwnS.keepX hu xy hgx
  by_cases hi2:i < ts.length
  · obtain ⟨x,hx⟩:∃ x,ts[i]! = x:=⟨_,rfl⟩
    have hxi:ts[(i:Int).toNat]! = x:=hx
    have hxj:Hv ts[(i:Int).toNat]! = Hv x:=by rw [hxi]
    repeat' first | refine CO.cons rfl ?_ | refine CO.nil ?_ | refine CV.seq ?_ | refine CV.region callees ?_ | refine CV.cond ?_ | refine CV.block ?_ | refine CV.skip ?_ | refine ⟨_,ts_addr hty (by omega) (by omega),?_⟩ | refine ⟨_,ts_load hty (by omega),?_⟩ | (refine ⟨fun _=>?_,fun _=>?_⟩<;>try (exfalso; omega)) | fail
    rw [hxi]
    refine ⟨_,_,al82,?_⟩
    generalize hs3:Heap.new Hy _ = H3
    have hg3:=new_get hs3
    have k3:=new_keep hs3
    have n3:=new_n hs3
    obtain ⟨b3,hbn3⟩:∃ b,Heap.n Hy = b:=⟨_,rfl⟩
    rw [hbn3] at hg3 n3 ⊢
    repeat' first | refine CO.cons rfl ?_ | fail
    refine ⟨_,_,st82 hg3,by omega,?_⟩
    generalize hs4:Heap.set H3 b3 _ = H4
    have hg4:H4.get b3 = some (.cells (Hl x) 99 1):=set_get hs4
    have n4:=set_n hs4
    have o4:=set_old hs4
    have k4:Keep Hy H4:=keep_put k3 (by omega) o4 n4
    have l4:=k4.1
    have hq4:Ints H4 qv c:=Row.keep hqy k4
    have hgy4:=(k4.2 b2 (by omega)).trans hgy
    have hw4:OwnT H4 w (onlyT (ts.take i) c) Hx.n:=OwnS.keep hw k4
    obtain ⟨pa,hpa⟩:∃ p,posI c x.1 = p:=⟨_,rfl⟩
    obtain ⟨pb,hpb⟩:∃ p,posI c x.2 = p:=⟨_,rfl⟩
    have hol:(onlyT (ts.take i) c).length<=40:=Nat.le_trans onlyT_len (by rw [List.length_take]; omega)
    repeat' first | refine CO.nil ?_ | refine CV.seq ?_ | refine CG.cons rfl ?_ | refine CV.wide callees (by decide +kernel) [0,1,2,4,5,6,3,7,8,9] (by kernel_rfl) ?_ | refine ⟨_,fS foT0 (by decide),?_⟩ | refine ⟨_,fS foT1 (by decide),?_⟩ | refine ⟨_,cell_load ag3 hg4 rfl,?_⟩ | fail
    refine (index_spec (Nat.le_refl _) hq4 (by omega)).mono ?_
    rintro r H5 ⟨rfl,rfl⟩
    rw [hpa]
    repeat' first | refine CG.cons rfl ?_ | fail
    refine (index_spec (Nat.le_refl _) hq4 (by omega)).mono ?_
    rintro r H6 ⟨rfl,rfl⟩
    rw [hpb]
    have hpt:posT c x = if 0<=pa∧0<=pb then [(pa,pb)] else []:=by unfold posT; rw [hpa,hpb]
    by_cases hp:0<=pa∧0<=pb
    · obtain ⟨hp1,hp2⟩:=hp
      have hgM:(H6.new (.cells (Hl (pa,pb)) 99 2)).get b2 = some (.cells (Fl u w) 25 1):=((Keep.new H6 _).2 b2 (by omega)).trans hgy4
      repeat' first | refine CO.cons rfl ?_ | refine CO.nil ?_ | refine CV.seq ?_ | refine CV.region callees ?_ | refine CV.cond ?_ | refine CO.consG rfl ?_ | refine CG.cons rfl ?_ | refine CG.nil ?_ | refine ⟨_,fS foF1 (by decide),?_⟩ | refine ⟨_,cell_load ag26 hgy4 rfl,?_⟩ | refine ⟨_,bu82,?_⟩ | refine ⟨_,_,to_one,?_⟩ | (refine ⟨fun _=>?_,fun _=>?_⟩<;>try (exfalso; omega)) | fail
      refine to_push hw4 (by omega) (by omega) (by omega) ?_
      intro w' H7 hw7 kb7 hf7
      have l7:=kb7.le
      have hqa:∀ q,blkOf w = some q->Hx.n<=q:=fun q hq=>(hw4.lt hq).1
      have hg7:=(kb7.get b2 (by omega) (fun h=>by have:=hqa _ h; omega)).trans hgy4
      have x7:=kb7.keepX (xy.trans (k4.butX b2)) fun q hq=>by have:=hqa _ hq; omega
      repeat' first | refine CO.cons rfl ?_ | refine ⟨_,fS foF1 (by decide),?_⟩ | fail
      refine ⟨_,_,store_row (i:=1) sz26 hg7 (by show 1 < 2; decide) hw7.oneC,by omega,?_⟩
      generalize hsA:Heap.set H7 b2 _ = HA
      have hgA:HA.get b2 = some (.cells (Fl u w') 25 1):=set_get hsA
      have nA:=set_n hsA
      have oA:=set_old hsA
      repeat' first | refine CO.cons rfl ?_ | refine CO.nil ?_ | refine CV.region callees ?_ | refine ⟨(⟨by omega,by omega⟩:inI64 _),?_⟩ | fail
      refine ⟨(w',i + 1),(by repeat' first | exact trivial | refine ⟨rfl,?_⟩ | refine ⟨slot_int (by (try simp only [Int.toNat_natCast]); omega),?_⟩),(by (try dsimp only); omega),?_⟩
      have kA:KeepX b2 H7 HA:=⟨by omega,fun q hq hql=>oA q hql⟩
      exact ⟨by omega,x7.trans kA,hgA,by rw [onlyT_snoc hi2,hx,hpt,if_pos ⟨hp1,hp2⟩]; exact OwnS.keepX hw7 kA hg7⟩
    · have hT:onlyT (ts.take (i + 1)) c = onlyT (ts.take i) c:=by rw [onlyT_snoc hi2,hx,hpt,if_neg hp,List.append_nil]
      by_cases hp1:0<=pa
      · have hp2:¬ 0<=pb:=fun h=>hp ⟨hp1,h⟩
        repeat' first | refine CO.cons rfl ?_ | refine CO.nil ?_ | refine CV.seq ?_ | refine CV.region callees ?_ | refine CV.cond ?_ | refine CV.skip ?_ | refine CO.consG rfl ?_ | refine CG.cons rfl ?_ | refine CG.nil ?_ | refine ⟨(⟨by omega,by omega⟩:inI64 _),?_⟩ | (refine ⟨fun _=>?_,fun _=>?_⟩<;>try (exfalso; omega)) | fail
        refine ⟨(w,i + 1),(by repeat' first | exact trivial | refine ⟨rfl,?_⟩ | refine ⟨slot_int (by (try simp only [Int.toNat_natCast]); omega),?_⟩),(by (try dsimp only); omega),?_⟩
        exact ⟨by omega,xy.trans (k4.butX b2),hgy4,by rw [hT]; exact hw4⟩
      · repeat' first | refine CO.cons rfl ?_ | refine CO.nil ?_ | refine CV.seq ?_ | refine CV.region callees ?_ | refine CV.cond ?_ | refine CV.skip ?_ | refine CO.consG rfl ?_ | refine CG.cons rfl ?_ | refine CG.nil ?_ | refine ⟨(⟨by omega,by omega⟩:inI64 _),?_⟩ | (refine ⟨fun _=>?_,fun _=>?_⟩<;>try (exfalso; omega)) | fail
        refine ⟨(w,i + 1),(by repeat' first | exact trivial | refine ⟨rfl,?_⟩ | refine ⟨slot_int (by (try simp only [Int.toNat_natCast]); omega),?_⟩),(by (try dsimp only); omega),?_⟩
        exact ⟨by omega,xy.trans (k4.butX b2),hgy4,by rw [hT]; exact hw4⟩
  obtain rfl:i = ts.length:=by omega
  rw [List.take_length] at hw
  repeat' first | refine CO.cons rfl ?_ | refine CO.nil ?_ | refine CV.seq ?_ | refine CV.region callees ?_ | refine CV.cond ?_ | refine CV.exit ?_ | refine ⟨_,ld28 hgy,?_⟩ | (refine ⟨fun _=>?_,fun _=>?_⟩<;>try (exfalso; omega)) | fail
  refine ⟨_,_,st28 huy.oneC hw.oneC hg1y,by omega,?_⟩
  generalize hsz:Heap.set Hy b1 _ = Hz
  have hgz:Hz.get b1 = some (.cells (Fl u w) 25 1):=set_get hsz
  have nz:=set_n hsz
  have oz:=set_old hsz
  repeat' first | refine CO.nil ?_ | refine CV.ret ?_ | fail
  have kz:KeepX b1 Hy Hz:=⟨by omega,fun q hq hql=>oz q hql⟩
  exact ⟨_,ld28 hgz,rfl,⟨u,w,rfl,OwnS.low (OwnS.keepX huy kz hg1y) (by omega),OwnS.low (OwnS.keepX hw kz hg1y) (by omega)⟩,keep_put ky (by omega) oz nz⟩
theorem sz4k:sizeB Try.prog 4 = some 1:=by kernel_rfl
theorem zc4k:zeroCells Try.prog 4 = some [.bool false]:=by kernel_rfl
open Classical in
noncomputable def surB (k:Ke) (E:List Em) (ps:List Po) (fr to:Nat):Bool:=decide (∀ m,fr<=m->m<=to->verN k (warmM k E ps m) = 1)
open Classical in
theorem surB_true {k:Ke} {E:List Em} {ps:List Po} {fr to:Nat} (h:∀ m,fr<=m->m<=to->verN k (warmM k E ps m) = 1):surB k E ps fr to = true:=by
  unfold surB; exact decide_eq_true h
open Classical in
theorem surB_false {k:Ke} {E:List Em} {ps:List Po} {fr to m:Nat} (h1:fr<=m) (h2:m<=to) (h:verN k (warmM k E ps m) ≠ 1):surB k E ps fr to = false:=by
  unfold surB; exact decide_eq_false fun g=>h (g m h1 h2)
abbrev pt (b:Nat):Value:=.pointer (some ⟨b,0,none⟩)
theorem szEm:sizeB Try.prog 101 = some 1:=by kernel_rfl
theorem foB1k:fieldOff Try.prog 116 1 = some (8,1):=by kernel_rfl
structure Kap (bf bb b1 b2:Nat) (k:Ke) (cv tv pv:Value) (fr to:Nat) (X:Heap):Prop where
  f:X.get bf = some (.cells (Fl cv tv) 25 1)
  b:∃ ev,X.get bb = some (.cells (Bol k ev pv) 116 1)
  x:X.get b1 = some (.cells [VJ fr] 3 1)
  y:X.get b2 = some (.cells [VJ to] 3 1)
end Go.Proofs.Ytglkphjjinmgmaa
namespace Go.AI
theorem append_cut {P:Program} {t e:TypeId} {z:Value} {by':Nat} {H:Heap} (ht:P.underlying t = some (.slice e)) (h1:oneBB P e = some (z,by')) (hb:by'<=16) {b b':Nat} {cs rest news:List Value} {e':TypeId} {k:Nat} (hx:H.get b = some (.cells (cs ++ rest) e 2)) (hr:0 < rest.length) (hy:H.get b' = some (.cells news e' k)) (hn0:0 < news.length) (hn:cs.length + news.length<=1000000) :
    aappend P H #[t,t] (.slice (some ⟨b,0,none⟩) cs.length 0) (.slice (some ⟨b',0,none⟩) news.length 0) = some (.slice (some ⟨H.n,0,none⟩) (cs.length + news.length) 0,(H.set b .gone).new (.cells (cs ++ news) e 2),b):=by
  obtain ⟨info,hi,hz,hs,hc,hsc,hby⟩:=oneBB_spec h1
  have hmul:(cs.length + news.length) * info.bytes<=1000000 * 16:=Nat.mul_le_mul hn (by omega)
  simp only [aappend,ht,hi,hz,hc,hs,sourceOf,hy,hx]
  have hl:¬ news.length = 0:=by omega
  rw [if_neg (by simp),if_neg (by simp),if_pos (by simp)]
  simp only [hl,if_false,Nat.mul_one,List.drop_zero,List.take_length,Nat.zero_add]
  rw [if_neg (by simp),if_neg (by rw [List.length_append]; omega),if_pos ⟨trivial,by rw [List.length_append]; omega,by show cs.length + news.length<=9223372036854775807; omega,by omega⟩,List.take_left]
  rfl
end Go.AI
namespace Go.Proofs.Ytglkphjjinmgmaa
open Go.AI
def PreQ (b0:Nat) (H:Heap) (q:Value) (c:List Int):Prop :=
  (q = nilS∧c = []) ∨ ∃ b rest,q = .slice (some ⟨b,0,none⟩) c.length 0∧b0<=b∧b < H.n∧H.get b = some (.cells (c.map VJ ++ rest) 3 2)
theorem PreQ.ints {b0:Nat} {H:Heap} {q:Value} {c:List Int} (h:PreQ b0 H q c):Ints H q c:=by
  rcases h with ⟨rfl,rfl⟩ | ⟨b,rest,rfl,h1,h2,h3⟩
  · exact .inl ⟨rfl,rfl⟩
  · refine .inr (.inr ⟨b,0,0,c.map VJ ++ rest,3,2,by rw [List.length_map],h2,h3,by decide,by simp,fun j w hj=>?_⟩)
    rw [Nat.zero_add]
    have hl:j < (c.map VJ).length:=(List.getElem?_eq_some_iff.1 hj).1
    rw [List.getElem?_append_left hl]; exact hj
theorem PreQ.keep {b0:Nat} {H H':Heap} {q:Value} {c:List Int} (h:PreQ b0 H q c) (hn:H.n<=H'.n) (hk:∀ p,b0<=p->p < H.n->H.get p ≠ none->blkOf q = some p->H'.get p = H.get p):PreQ b0 H' q c:=by
  rcases h with h | ⟨b,rest,rfl,h1,h2,h3⟩
  · exact .inl h
  · exact .inr ⟨b,rest,rfl,h1,by omega,by rw [hk b h1 h2 (by rw [h3]; exact fun h=>by cases h) rfl]; exact h3⟩
theorem PreQ.one {b0:Nat} {H:Heap} {q:Value} {c:List Int} (h:PreQ b0 H q c):AI.oneC q = true:=by
  rcases h with ⟨rfl,_⟩ | ⟨_,_,rfl,_⟩<;>rfl
theorem PreQ.lt {b0:Nat} {H:Heap} {q:Value} {c:List Int} (h:PreQ b0 H q c) {p:Nat} (hp:blkOf q = some p):b0<=p∧p < H.n:=by
  rcases h with ⟨rfl,_⟩ | ⟨b,_,rfl,h1,h2,_⟩
  · cases hp
  · cases hp; exact ⟨h1,h2⟩
theorem pre_push {B b0:Nat} {K:Value->Heap->Prop} {H:Heap} {q:Value} {c:List Int} {y:Int} (h:PreQ b0 H q c) (hB:B<=b0) (hb:b0<=H.n) (hn:c.length < 1000)
    (hk:∀ r H',PreQ b0 H' r (c ++ [y])->(∀ p,p < H.n->blkOf q ≠ some p->H'.get p = H.get p)->H.n<=H'.n->K r H') :
    ∃ v H' b,aappend Try.prog (H.new (.cells [VJ y] 3 2)) #[33,33] q (.slice (some ⟨H.n,0,none⟩) 1 0) = some (v,H',b)∧B<=b∧K v H':=by
  have hy:(H.new (.cells [VJ y] 3 2)).get H.n = some (.cells [VJ y] 3 2):=Heap.get_new_eq _ _
  rcases h with ⟨rfl,rfl⟩ | ⟨b,rest,rfl,h2,h3,h4⟩
  · refine ⟨_,_,_,append_nil un22 one3 (by decide) (news:=[VJ y]) hy (by simp) (by simp),?_,hk _ _ (.inr ⟨H.n + 1,[],rfl,?_,?_,Heap.get_new_eq _ _⟩) ?_ ?_⟩
    · show B<=H.n + 1; omega
    · show b0<=H.n + 1; omega
    · show H.n + 1 < H.n + 1 + 1; omega
    · intro p hp _
      rw [Heap.get_new_ne _ _ (by show p ≠ H.n + 1; omega),Heap.get_new_ne _ _ (by omega)]
    · show H.n<=H.n + 1 + 1; omega
  · have hx:(H.new (.cells [VJ y] 3 2)).get b = some (.cells (c.map VJ ++ rest) 3 2):=by rw [Heap.get_new_ne _ _ (by omega)]; exact h4
    have key:aappend Try.prog (H.new (.cells [VJ y] 3 2)) #[33,33] (.slice (some ⟨b,0,none⟩) c.length 0) (.slice (some ⟨H.n,0,none⟩) 1 0) = some (.slice (some ⟨(H.new (.cells [VJ y] 3 2)).n,0,none⟩) (c.length + 1) 0,((H.new (.cells [VJ y] 3 2)).set b .gone).new (.cells (c.map VJ ++ [VJ y]) 3 2),b):=by
      by_cases hr:0 < rest.length
      · have:=append_cut un22 one3 (by decide) (news:=[VJ y]) hx hr hy (by simp) (by simp; omega)
        simpa using this
      · obtain rfl:rest = []:=List.length_eq_zero_iff.1 (by omega)
        rw [List.append_nil] at hx
        have:=append_row un22 one3 (by decide) (news:=[VJ y]) hx hy (by simp) (by simp; omega)
        simpa using this
    refine ⟨_,_,_,key,by omega,hk _ _ (.inr ⟨H.n + 1,[],?_,?_,?_,?_⟩) ?_ ?_⟩
    · rw [List.length_append,List.length_singleton]; rfl
    · show b0<=H.n + 1; omega
    · show H.n + 1 < H.n + 1 + 1; omega
    · rw [List.append_nil,List.map_append]; exact Heap.get_new_eq _ _
    · intro p hp hne
      have hne':b ≠ p:=fun h=>hne (by rw [h]; rfl)
      rw [Heap.get_new_ne _ _ (by show p ≠ H.n + 1; omega),Heap.get_set_ne _ _ hne',Heap.get_new_ne _ _ (by omega)]
    · show H.n<=H.n + 1 + 1; omega
theorem pre_slice {b0:Nat} {H:Heap} {q:Value} {c:List Int} {y:Int} (h:PreQ b0 H q (c ++ [y])):∃ r,aslice Try.prog 33 q none (some (some (VJ c.length))) = some r∧PreQ b0 H r c∧blkOf r = blkOf q:=by
  rcases h with ⟨_,h⟩ | ⟨b,rest,rfl,h1,h2,h3⟩
  · simp at h
  · refine ⟨.slice (some ⟨b,0,none⟩) c.length 0,?_,.inr ⟨b,VJ y :: rest,rfl,h1,h2,by rw [h3,List.map_append]; simp⟩,rfl⟩
    simp only [aslice,un22,sz3,bound]
    rw [if_pos ⟨by omega,by omega,by rw [List.length_append,List.length_singleton]; omega⟩,if_pos trivial]
    simp
end Go.Proofs.Ytglkphjjinmgmaa
