/- Several texts in one. -/
import Derived.Test.YtglkphjjinmgmaaEy
import Derived.Test.YtglkphjjinmgmaaEx
import Derived.Test.YtglkphjjinmgmaaChecked
import Derived.Test.YtglkphjjinmgmaaX4
import Derived.Test.YtglkphjjinmgmaaEu
set_option linter.unusedVariables false
set_option linter.unusedSimpArgs false
namespace Go.Proofs.Ytglkphjjinmgmaa
open Go.AI
theorem mixed:Try.prog.follows .mixedOrders = true:=by kernel_rfl
theorem nglobs:Try.prog.globals.size = 0:=by kernel_rfl
instance:Oracle Try.prog:=Oracle.of Try.prog []
theorem sure1 (B:Nat):Sure Try.prog B:=⟨of_nil,mixed,wild_none fun _=>rfl⟩
theorem sz3:sizeB Try.prog 3 = some 1:=by kernel_rfl
theorem ag3:isAggB Try.prog 3 = some false:=by kernel_rfl
theorem one3:oneBB Try.prog 3 = some (.int .i64 0,8):=by kernel_rfl
theorem callees1:calleesOk Try.prog 107 = true:=by kernel_rfl
theorem un3:Try.prog.underlying 3 = some (.int .i64):=by kernel_rfl
theorem un22:Try.prog.underlying 33 = some (.slice 3):=by kernel_rfl
theorem ints_at {H:Heap} {v:Value} {xs:List Int} (h:Ints H v xs) {i:Int} (h0:0<=i) (h1:i < xs.length):(xs.map (Value.int .i64))[i.toNat]? = some (.int .i64 xs[i.toNat]!):=by
  have:i.toNat < xs.length:=by omega
  simp [List.getElem?_map,List.getElem?_eq_getElem this,getElem!_pos,this]
theorem ints_len {H:Heap} {v:Value} {xs:List Int} (h:Ints H v xs):alen Try.prog H 33 v = some (.int .i64 xs.length):=by
  have:=Row.alen h un22; simpa using this
theorem ints_addr {H:Heap} {v:Value} {xs:List Int} (h:Ints H v xs) {i:Int} (h0:0<=i) (h1:i < xs.length):aindexAddr Try.prog 33 v (.int .i64 i) = some (elemAt v i.toNat) :=
  Row.addr h un22 sz3 h0 (by simpa using h1)
theorem ints_load {H:Heap} {v:Value} {xs:List Int} (h:Ints H v xs) {i:Int} (h0:0<=i) (h1:i < xs.length):aload Try.prog 3 H (elemAt v i.toNat) = some (.int .i64 xs[i.toNat]!) :=
  Row.load h ag3 (ints_at h h0 h1)
end Go.Proofs.Ytglkphjjinmgmaa
namespace Go.AI
theorem RowS.cells {s:Nat} {H:Heap} {v:Value} {rs:List (List Value)} (h:RowS s H v rs):v.cells.toList = [v]∧AI.oneC v = true∧AI.notTuple v = true:=by
  rcases h.2 with ⟨rfl,_⟩ | ⟨rfl,_⟩ | ⟨_,_,_,_,_,_,rfl,_⟩<;>exact ⟨rfl,rfl,rfl⟩
theorem agg_load {P:Program} {H:Heap} {t e:TypeId} {b i n k:Nat} {cs:List Value} (ha:isAggB P t = some true) (hs:sizeB P t = some n) (hg:H.get b = some (.cells cs e k)) (hle:i + n<=cs.length):aload P t H (.pointer (some ⟨b,i,none⟩)) = some (.agg ((cs.drop i).take n).toArray):=by
  simp [aload,hg,ha,hs,hle]
theorem RowS.inj {s:Nat} {H:Heap} {v:Value} {rs rs':List (List Value)} (hs:0 < s) (h:RowS s H v rs) (h':RowS s H v rs'):rs = rs':=by
  have hq:∀ (b i n c:Nat) (cs:List Value),rs.length = n->rs'.length = n->(∀ (j q:Nat) (r:List Value) (w:Value),rs[j]? = some r->r[q]? = some w->cs[i + j * s + q]? = some w)->(∀ (j q:Nat) (r:List Value) (w:Value),rs'[j]? = some r->r[q]? = some w->cs[i + j * s + q]? = some w)->rs = rs':=by
    intro b i n c cs hl hl' h1 h2
    apply List.ext_getElem (by omega)
    intro j hj hj'
    have e1:=h.1 rs[j] (List.getElem_mem hj)
    have e2:=h'.1 rs'[j] (List.getElem_mem hj')
    apply List.ext_getElem (by omega)
    intro q hq hq'
    have a1:=h1 j q _ _ (List.getElem?_eq_getElem hj) (List.getElem?_eq_getElem hq)
    have a2:=h2 j q _ _ (List.getElem?_eq_getElem hj') (List.getElem?_eq_getElem hq')
    rw [a1] at a2
    exact Option.some.inj a2
  rcases h.2 with ⟨h1,h2⟩ | ⟨h1,h2⟩ | ⟨b,i,c,cs,e,k,h1,_,h3,_,_,h4⟩<;>rcases h'.2 with ⟨g1,g2⟩ | ⟨g1,g2⟩ | ⟨b',i',c',cs',e',k',g1,_,g3,_,_,g4⟩
  · rw [h2,g2]
  · rw [h2,g2]
  · rw [h1] at g1; cases g1
  · rw [h2,g2]
  · rw [h2,g2]
  · rw [h1] at g1; simp [anon] at g1
  · rw [h1] at g1; cases g1
  · rw [h1] at g1; simp [anon] at g1
  · rw [h1] at g1
    simp only [Value.slice.injEq,Option.some.injEq,Addr.mk.injEq,and_true] at g1
    obtain ⟨⟨rfl,rfl⟩,hl,rfl⟩:=g1
    rw [h3] at g3
    cases g3
    exact hq b i rs.length c cs rfl hl.symm h4 g4
end Go.AI
namespace Go.Proofs.Ytglkphjjinmgmaa
open Go.AI
structure Co where
  cl:Int
  ch:Int
  bl:Int
  bh:Int
  hl:Int
  hh:Int
  lt:Bool
deriving Inhabited
abbrev VJ:Int->Value:=Value.int .i64
abbrev Col (c:Co):List Value:=[VJ c.cl,VJ c.ch,VJ c.bl,VJ c.bh,VJ c.hl,VJ c.hh,.bool c.lt]
abbrev Cov (c:Co):Value:=.agg #[VJ c.cl,VJ c.ch,VJ c.bl,VJ c.bh,VJ c.hl,VJ c.hh,.bool c.lt]
abbrev Hl (h:Int × Int):List Value:=[VJ h.1,VJ h.2]
abbrev Hv (h:Int × Int):Value:=.agg #[VJ h.1,VJ h.2]
abbrev Fl (c t:Value):List Value:=[c,t]
abbrev Fv (c t:Value):Value:=.agg #[c,t]
abbrev nilS:Value:=.slice none 0 0
theorem Col_inj {a b:Co} (h:Col a = Col b):a = b:=by
  cases a; cases b; simp [Col] at h; simp [h]
theorem Hl_inj {a b:Int × Int} (h:Hl a = Hl b):a = b:=by
  cases a; cases b; simp [Hl] at h; simp [h]
theorem map_inj {α β:Type} {f:α->β} (hf:∀ a b,f a = f b->a = b):∀ {l k:List α},l.map f = k.map f->l = k
  | [],[],_=>rfl
  | [],_ :: _,h=>by simp at h
  | _ :: _,[],h=>by simp at h
  | a :: l,b :: k,h=>by
    simp only [List.map_cons,List.cons.injEq] at h
    rw [hf a b h.1,map_inj hf h.2]
structure CoOk (c:Co):Prop where
  c1:1<=c.cl
  c2:c.cl<=c.ch
  c3:c.ch<=300
  b1:1<=c.bl
  b2:c.bl<=c.bh
  b3:c.bh<=300
  h1:0<=c.hl
  h2:c.hl<=c.hh
  h3:c.hh<=1000
structure FOk (cs:List Co) (ts:List (Int × Int)):Prop where
  n:cs.length<=12
  c:∀ i,i < cs.length->CoOk cs[i]!
  m:ts.length<=40
  t:∀ i,i < ts.length->(0<=ts[i]!.1∧ts[i]!.1 < cs.length)∧(0<=ts[i]!.2∧ts[i]!.2 < cs.length)∧ts[i]!.1 ≠ ts[i]!.2
def ca (e:Int) (c:Co):Int:=if e = 0 then c.cl else c.ch
def bu (e:Int) (c:Co):Int:=if e = 0 then c.bh else c.bl
def coAt (cs:List Co) (i:Int):Co:=cs[i.toNat]!
def Arc (e:Int) (cs:List Co) (ts:List (Int × Int)) (p:Int × Int):Prop:=(p ∈ ts ∨ (p.2,p.1) ∈ ts)∧ca e (coAt cs p.2)<=bu e (coAt cs p.1)
structure IsBeg (e:Int) (cs:List Co) (ts:List (Int × Int)) (B:List Int):Prop where
  len:B.length = cs.length
  lo:∀ i:Nat,i < B.length->0<=B[i]!∧B[i]!<=1000000
  lit:∀ i:Nat,i < B.length->cs[i]!.lt = true->B[i]! = 0
  le:∀ p,Arc e cs ts p->B[p.2.toNat]!<=B[p.1.toNat]! + ca e (coAt cs p.2)
  via:∀ i:Nat,i < B.length->cs[i]!.lt = false->B[i]! = 1000000 ∨ ∃ p,Arc e cs ts p∧p.2 = i∧B[i]! = B[p.1.toNat]! + ca e (coAt cs p.2)∧B[i]! < 1000000
theorem mem_ats {ts:List (Int × Int)} {p:Int × Int} (h:p ∈ ts):∃ i,i < ts.length∧ts[i]! = p:=by
  obtain ⟨i,hi,h⟩:=List.mem_iff_getElem.1 h
  exact ⟨i,hi,by rw [getElem!_pos ts i hi]; exact h⟩
theorem Arc.ok {e:Int} {cs:List Co} {ts:List (Int × Int)} {p:Int × Int} (hf:FOk cs ts) (h:Arc e cs ts p):(0<=p.1∧p.1 < cs.length)∧(0<=p.2∧p.2 < cs.length)∧p.1 ≠ p.2:=by
  rcases h.1 with h | h
  · obtain ⟨i,hi,rfl⟩:=mem_ats h
    exact hf.t i hi
  · obtain ⟨i,hi,e⟩:=mem_ats h
    have:=hf.t i hi
    rw [e] at this
    exact ⟨this.2.1,this.1,fun h=>this.2.2 h.symm⟩
theorem ca_pos {e:Int} {cs:List Co} {ts:List (Int × Int)} (hf:FOk cs ts) {i:Int} (h0:0<=i) (h1:i < cs.length):1<=ca e (coAt cs i)∧ca e (coAt cs i)<=300:=by
  have:=hf.c i.toNat (by omega)
  unfold ca coAt
  have h2:=this.c1; have h3:=this.c2; have h4:=this.c3
  split<;>omega
theorem IsBeg.le_of {e:Int} {cs:List Co} {ts:List (Int × Int)} {B B':List Int} (hf:FOk cs ts) (h:IsBeg e cs ts B) (h':IsBeg e cs ts B'):∀ (m:Nat) (i:Nat),i < cs.length->B'[i]!.toNat<=m->B[i]!<=B'[i]!:=by
  intro m
  induction m with
  | zero =>
    intro i hi hm
    have h1:=h'.lo i (by rw [h'.len]; exact hi)
    cases hl:cs[i]!.lt with
    | true=>rw [h.lit i (by rw [h.len]; exact hi) hl]; omega
    | false =>
      rcases h'.via i (by rw [h'.len]; exact hi) hl with h2 | ⟨p,hp,hpi,h3,_⟩
      · omega
      · have h4:=hp.ok hf
        have h5:=ca_pos (e:=e) hf h4.2.1.1 h4.2.1.2
        have h6:=h'.lo p.1.toNat (by rw [h'.len]; omega)
        omega
  | succ m ih =>
    intro i hi hm
    have h1:=h'.lo i (by rw [h'.len]; exact hi)
    have h0:=h.lo i (by rw [h.len]; exact hi)
    cases hl:cs[i]!.lt with
    | true=>rw [h.lit i (by rw [h.len]; exact hi) hl]; omega
    | false =>
      rcases h'.via i (by rw [h'.len]; exact hi) hl with h2 | ⟨p,hp,hpi,h3,_⟩
      · omega
      · have h4:=hp.ok hf
        have h5:=ca_pos (e:=e) hf h4.2.1.1 h4.2.1.2
        have h6:=h'.lo p.1.toNat (by rw [h'.len]; omega)
        have h7:=ih p.1.toNat (by omega) (by omega)
        have h8:=h.le p hp
        have h9:p.2.toNat = i:=by omega
        rw [h9] at h8
        omega
theorem IsBeg.one {e:Int} {cs:List Co} {ts:List (Int × Int)} {B B':List Int} (hf:FOk cs ts) (h:IsBeg e cs ts B) (h':IsBeg e cs ts B'):B = B':=by
  apply List.ext_getElem (by rw [h.len,h'.len])
  intro i h1 h2
  have a:=h.le_of hf h' _ i (by rw [<- h.len]; exact h1) (Nat.le_refl _)
  have b:=h'.le_of hf h _ i (by rw [<- h.len]; exact h1) (Nat.le_refl _)
  rw [getElem!_pos B i h1,getElem!_pos B' i h2] at a b
  omega
structure Pre (e:Int) (cs:List Co) (ts:List (Int × Int)) (B:List Int):Prop where
  len:B.length = cs.length
  lo:∀ i:Nat,i < B.length->0<=B[i]!∧B[i]!<=1000000
  lit:∀ i:Nat,i < B.length->cs[i]!.lt = true->B[i]! = 0
  via:∀ i:Nat,i < B.length->cs[i]!.lt = false->B[i]! = 1000000 ∨ ∃ p,Arc e cs ts p∧p.2 = i∧B[p.1.toNat]! + ca e (coAt cs p.2)<=B[i]!∧B[i]! < 1000000
def sumI:List Int->Int
  | []=>0
  | x :: l=>x + sumI l
theorem sumI_set:∀ {l:List Int} {i:Nat} {x:Int},i < l.length->sumI (l.set i x) = sumI l - l[i]! + x
  | y :: l,0,x,_=>by simp [sumI]; omega
  | y :: l,i + 1,x,h=>by
    have:=sumI_set (l:=l) (i:=i) (x:=x) (by simpa using h)
    simp only [List.set_cons_succ,sumI,this]
    simp
    omega
theorem sumI_nonneg:∀ {l:List Int},(∀ i:Nat,i < l.length->0<=l[i]!)->0<=sumI l
  | [],_=>by simp [sumI]
  | y :: l,h=>by
    have h1:=h 0 (by simp)
    have h2:=sumI_nonneg (l:=l) fun i hi=>by
      have:=h (i + 1) (by simpa using hi)
      simpa using this
    simp at h1
    simp [sumI]; omega
theorem getS {l:List Int} {i a:Nat} {x:Int} (ha:a < l.length):(l.set i x)[a]! = if i = a then x else l[a]!:=by
  rw [getElem!_pos _ a (by rw [List.length_set]; exact ha),List.getElem_set,getElem!_pos l a ha]
theorem Pre.lower {e:Int} {cs:List Co} {ts:List (Int × Int)} {B:List Int} (hf:FOk cs ts) (h:Pre e cs ts B) {p:Int × Int} (hp:Arc e cs ts p) (hlt:B[p.1.toNat]! + ca e (coAt cs p.2) < B[p.2.toNat]!):Pre e cs ts (B.set p.2.toNat (B[p.1.toNat]! + ca e (coAt cs p.2))):=by
  have h4:=hp.ok hf
  have h5:=ca_pos (e:=e) hf h4.2.1.1 h4.2.1.2
  have hl:=h.len
  have ha:=h.lo p.1.toNat (by omega)
  have hb:=h.lo p.2.toNat (by omega)
  refine ⟨by rw [List.length_set]; exact h.len,fun i hi=>?_,fun i hi hlit=>?_,fun i hi hlit=>?_⟩
  · rw [List.length_set] at hi
    rw [getS hi]
    split
    · omega
    · exact h.lo i hi
  · rw [List.length_set] at hi
    rw [getS hi]
    split
    · rename_i he
      have:=h.lit i hi hlit
      rw [he] at hlt
      omega
    · exact h.lit i hi hlit
  · rw [List.length_set] at hi
    have hne:p.2.toNat ≠ p.1.toNat:=by omega
    by_cases he:p.2.toNat = i
    · refine .inr ⟨p,hp,by omega,?_⟩
      rw [getS (show p.1.toNat < B.length by omega),if_neg hne,getS hi,if_pos he]
      exact ⟨by omega,by omega⟩
    · rcases h.via i hi hlit with h2 | ⟨q,hq,hqi,h3,h4'⟩
      · exact .inl (by rw [getS hi,if_neg he]; exact h2)
      · refine .inr ⟨q,hq,hqi,?_⟩
        have hq1:=hq.ok hf
        rw [getS hi,if_neg he,getS (show q.1.toNat < B.length by omega)]
        refine ⟨?_,h4'⟩
        split
        · rename_i h6
          rw [<- h6] at h3
          omega
        · exact h3
theorem Pre.end_ {e:Int} {cs:List Co} {ts:List (Int × Int)} (hf:FOk cs ts):∀ (m:Nat) (B:List Int),Pre e cs ts B->(sumI B).toNat<=m->∃ B,IsBeg e cs ts B:=by
  intro m
  induction m with
  | zero =>
    intro B h hm
    by_cases hx:∃ p,Arc e cs ts p∧B[p.1.toNat]! + ca e (coAt cs p.2) < B[p.2.toNat]!
    · obtain ⟨p,hp,hlt⟩:=hx
      have h4:=hp.ok hf
      have h0:=(h.lower hf hp hlt)
      have h1:=sumI_nonneg (fun i hi=>(h0.lo i hi).1)
      have hlen:=h.len
      have hlt2:p.2.toNat < B.length:=by omega
      rw [sumI_set hlt2] at h1
      omega
    · refine ⟨B,h.len,h.lo,h.lit,fun p hp=>?_,fun i hi hl=>?_⟩
      · have h9:¬ (B[p.1.toNat]! + ca e (coAt cs p.2) < B[p.2.toNat]!):=fun hlt=>hx ⟨p,hp,hlt⟩
        omega
      · rcases h.via i hi hl with h2 | ⟨p,hp,hpi,h3,h4⟩
        · exact .inl h2
        · have h5:¬ (B[p.1.toNat]! + ca e (coAt cs p.2) < B[p.2.toNat]!):=fun hlt=>hx ⟨p,hp,hlt⟩
          have h6:p.2.toNat = i:=by omega
          rw [h6] at h5
          exact .inr ⟨p,hp,hpi,by omega,h4⟩
  | succ m ih =>
    intro B h hm
    by_cases hx:∃ p,Arc e cs ts p∧B[p.1.toNat]! + ca e (coAt cs p.2) < B[p.2.toNat]!
    · obtain ⟨p,hp,hlt⟩:=hx
      have h4:=hp.ok hf
      refine ih _ (h.lower hf hp hlt) ?_
      have hlen:=h.len
      have hlt2:p.2.toNat < B.length:=by omega
      rw [sumI_set hlt2]
      omega
    · refine ⟨B,h.len,h.lo,h.lit,fun p hp=>?_,fun i hi hl=>?_⟩
      · have h9:¬ (B[p.1.toNat]! + ca e (coAt cs p.2) < B[p.2.toNat]!):=fun hlt=>hx ⟨p,hp,hlt⟩
        omega
      · rcases h.via i hi hl with h2 | ⟨p,hp,hpi,h3,h4⟩
        · exact .inl h2
        · have h5:¬ (B[p.1.toNat]! + ca e (coAt cs p.2) < B[p.2.toNat]!):=fun hlt=>hx ⟨p,hp,hlt⟩
          have h6:p.2.toNat = i:=by omega
          rw [h6] at h5
          exact .inr ⟨p,hp,hpi,by omega,h4⟩
def initB (cs:List Co):List Int:=cs.map fun c=>bif c.lt then 0 else 1000000
theorem initB_at {cs:List Co} {i:Nat} (h:i < cs.length):(initB cs)[i]! = bif cs[i]!.lt then 0 else 1000000:=by
  rw [getElem!_pos _ i (by simp [initB,h]),getElem!_pos cs i h]; simp [initB]
theorem pre_init {e:Int} {cs:List Co} {ts:List (Int × Int)}:Pre e cs ts (initB cs):=by
  have hl:(initB cs).length = cs.length:=by simp [initB]
  refine ⟨hl,fun i hi=>?_,fun i hi h=>?_,fun i hi h=>.inl ?_⟩
  · rw [initB_at (by omega)]; cases cs[i]!.lt<;>simp
  · rw [initB_at (by omega),h]; rfl
  · rw [initB_at (by omega),h]; rfl
theorem isBeg_ex {e:Int} {cs:List Co} {ts:List (Int × Int)} (hf:FOk cs ts):∃ B,IsBeg e cs ts B:=Pre.end_ hf _ _ pre_init (Nat.le_refl _)
theorem eq_ints {t:TypeId} {k:IntKind} {a b:Int} {d:Nat} (ht:Try.prog.underlying t = some (.int k)):pureRun Try.prog (Op.equalIn (d + 1) t (.int .i64 a) (.int .i64 b)) = some (a == b):=by
  rw [Op.equalIn,pureRun_bind,pureRun_underlying ht]
  simp
  rfl
theorem notHeldT:Try.prog.stoodInHeld 99 = false:=by kernel_rfl
theorem partT0 {a b:Int}:pureRun Try.prog (part 3 #[Value.int IntKind.i64 a,Value.int IntKind.i64 b] 0) = some (.int .i64 a):=by kernel_rfl
theorem partT1 {a b:Int}:pureRun Try.prog (part 3 #[Value.int IntKind.i64 a,Value.int IntKind.i64 b] 1) = some (.int .i64 b):=by kernel_rfl
set_option maxRecDepth 100000 in
theorem eqT {a b c d:Int}:pureRun Try.prog (Op.equal 99 (.agg #[.int .i64 a,.int .i64 b]) (.agg #[.int .i64 c,.int .i64 d])) = some ((a == c) && (b == d)):=by
  unfold Op.equal
  rw [show Op.maxDepth = 9998 + 1 + 1 from rfl,Op.equalIn,pureRun_bind,pureRun_underlying Try.underlying99]
  simp only [Option.bind_some]
  rw [pureRun_bind,show pureRun Try.prog program = some Try.prog from rfl,Option.bind_some,if_neg (by rw [notHeldT]; simp),pureRun_bind,<- Array.forIn_toList]
  simp only [List.forIn_cons,List.forIn_nil]
  simp only [pureRun_bind]
  simp only [show ("A" ≠ "_") = True from by simp,show ("B" ≠ "_") = True from by simp,if_true,pureRun_bind,partT0,Option.bind_some,eq_ints un3]
  cases (a == c) with
  | false=>rfl
  | true =>
    have hp:∀ {α:Type} (x:α),pureRun Try.prog (pure x) = some x:=fun _=>rfl
    simp only [Bool.not_true,Bool.false_eq_true,if_false,hp,Option.bind_some,pureRun_bind,partT1,eq_ints un3,Bool.true_and]
    cases (b == d)<;>rfl
theorem keysT_eq {a b:Int × Int}:pureRun Try.prog (Op.equal 99 (Hv a) (Hv b)) = some (decide (a = b)):=by
  refine eqT.trans (congrArg some ?_)
  cases a; cases b
  simp [Bool.decide_and]
  rfl
theorem keysT_bits {p:Int × Int}:Instr.sameBits 10000 (Hv p) (Hv p) = true:=by
  rw [show (10000:Nat) = 9999 + 1 from rfl]
  simp [Instr.sameBits]
theorem keysT_hash {p:Int × Int} (x:Bool):(pureRun Try.prog (Instr.checkKey x 10000 99 (Hv p))).isSome = true:=by
  cases x<;>kernel_rfl
abbrev ents (W:Int × Int->Int) (M:List (Int × Int)):List (Value × Value):=M.map fun p=>(Hv p,VJ (W p))
theorem findT {W:Int × Int->Int} {k:Int × Int}:∀ (M:List (Int × Int)) (i:Nat),
    (k ∈ M->∃ j,M[j]? = some k∧findQ Try.prog 99 (Hv k) (ents W M) i = some (some (i + j,VJ (W k))))∧(k ∉ M->findQ Try.prog 99 (Hv k) (ents W M) i = some none)
  | [],i=>⟨fun h=>(by cases h),fun _=>rfl⟩
  | x :: ks,i=>by
    have ih:=findT (W:=W) (k:=k) ks (i + 1)
    have he:=keysT_eq (a:=k) (b:=x)
    have hf:findQ Try.prog 99 (Hv k) (ents W (x :: ks)) i = if k = x then some (some (i,VJ (W x))) else findQ Try.prog 99 (Hv k) (ents W ks) (i + 1):=by
      simp only [ents,List.map_cons,findQ,he]
      by_cases hkx:k = x
      · rw [if_pos hkx]; simp only [decide_eq_true hkx]
      · rw [if_neg hkx]; simp only [decide_eq_false hkx]
    refine ⟨fun hm=>?_,fun hm=>?_⟩
    · rw [hf]
      by_cases hkx:k = x
      · subst hkx; rw [if_pos rfl]; exact ⟨0,rfl,rfl⟩
      · rw [if_neg hkx]
        obtain ⟨j,h1,h2⟩:=ih.1 (by simpa [hkx] using hm)
        exact ⟨j + 1,by simpa using h1,by rw [h2,show i + 1 + j = i + (j + 1) by omega]⟩
    · rw [hf,if_neg (fun e=>hm (by simp [e]))]
      exact ih.2 (fun e=>hm (by simp [e]))
theorem unTM:Try.prog.underlying 143 = some (.map 99 3):=by kernel_rfl
theorem unTo:∃ fs,Try.prog.underlying 99 = some (.struct fs):=⟨_,Try.underlying99⟩
def addK (M:List (Int × Int)) (p:Int × Int):List (Int × Int):=if p ∈ M then M else M ++ [p]
theorem mem_addK {M:List (Int × Int)} {p q:Int × Int}:q ∈ addK M p ↔ q ∈ M ∨ q = p:=by
  unfold addK
  split
  · rename_i h
    exact ⟨.inl,fun h'=>h'.elim id fun e=>e ▸ h⟩
  · simp
theorem updT {H:Heap} {r:Nat} {W:Int × Int->Int} {M:List (Int × Int)} {k:Int × Int} (hg:H.get r = some (.map (ents W M))) :
    amapUpdate Try.prog H 143 (.map (some r)) (Hv k) (VJ (W k)) = some (H.set r (.map (ents W (addK M k))),r):=by
  obtain ⟨fs,hfs⟩:=unTo
  obtain ⟨h1,h2⟩:=findT (W:=W) (k:=k) M 0
  simp only [amapUpdate,unTM,hg,hfs]
  rw [if_pos ⟨by simp [plain,flat,scalar],rfl,keysT_hash _⟩]
  have hA:findA (.struct fs) (Hv k) (ents W M) 0 = none ∨ (M = []∧findA (.struct fs) (Hv k) (ents W M) 0 = some none):=by
    cases M with
    | nil=>exact .inr ⟨rfl,rfl⟩
    | cons x M=>exact .inl rfl
  by_cases hm:k ∈ M
  · obtain ⟨j,h3,h4⟩:=h1 hm
    have hent:(ents W M)[j]? = some (Hv k,VJ (W k)):=by rw [List.getElem?_map,h3]; rfl
    have hb:bitsAt (ents W M) (0 + j) (Hv k) = true:=by
      rw [Nat.zero_add]
      simp only [bitsAt,hent]
      exact keysT_bits
    rcases hA with hA | ⟨rfl,_⟩
    · rw [hA,h4]
      simp only [hb,if_true,addK,if_pos hm]
      obtain ⟨hj1,hj2⟩:=List.getElem?_eq_some_iff.1 hent
      have hset:(ents W M).set (0 + j) (Hv k,VJ (W k)) = ents W M:=by
        rw [Nat.zero_add,<- hj2]; exact List.set_getElem_self hj1
      rw [hset]
    · cases hm
  · have e:ents W (addK M k) = ents W M ++ [(Hv k,VJ (W k))]:=by simp [ents,addK,if_neg hm]
    rw [e]
    rcases hA with hA | ⟨_,hA⟩
    · rw [hA,h2 hm]
    · rw [hA]
end Go.Proofs.Ytglkphjjinmgmaa
namespace Go.AI
def zeroCellsW (P:Program) (t:TypeId):Option (List Value) :=
  match (P.info? t).bind (·.zero) with
  | some z=>bif z.cells.toList.all scalar then some z.cells.toList else none
  | none=>none
theorem alloc_ofW {P:Program} {H:Heap} {t:TypeId} {l:List Value} (h:zeroCellsW P t = some l):sAlloc P H t = some (.pointer (some ⟨H.n,0,none⟩),H.new (.cells l t 1),H.n):=by
  unfold zeroCellsW at h
  unfold sAlloc
  split at h
  · rename_i z hz
    rw [hz]
    cases hc:z.cells.toList.all scalar with
    | true =>
      rw [hc] at h
      cases h
      simp only [hc,if_true]
      rfl
    | false=>rw [hc] at h; cases h
  · cases h
theorem splice_allW:∀ (vs cs:List Value) (i:Nat),i + vs.length<=cs.length->splice cs i vs = cs.take i ++ vs ++ cs.drop (i + vs.length)
  | [],cs,i,_=>by simp [splice]
  | v :: vs,cs,i,h=>by
    simp only [List.length_cons] at h
    rw [splice,splice_allW vs (cs.set i v) (i + 1) (by rw [List.length_set]; omega)]
    have h1:(cs.set i v).take (i + 1) = cs.take i ++ [v]:=by
      apply List.ext_getElem
      · simp; omega
      · intro j h1 h2
        simp only [List.length_take,List.length_set] at h1
        rw [List.getElem_take,List.getElem_set,List.getElem_append]
        by_cases hj:j < i
        · rw [if_neg (by omega),dif_pos (by simp; omega),List.getElem_take]
        · have:j = i:=by omega
          subst this
          rw [if_pos rfl,dif_neg (by rw [List.length_take]; omega)]
          simp
    rw [h1,List.drop_set_of_lt (by omega)]
    simp [Nat.add_assoc,Nat.add_comm 1]
theorem store_allW {P:Program} {H:Heap} {t e:TypeId} {b k:Nat} {cs vs:List Value} (hb:H.get b = some (.cells cs e (k + 1))) (hl:cs.length = vs.length) (hs:sizeB P t = some vs.length) (ho:vs.all oneC = true) :
    astore P t H (.agg vs.toArray) (.pointer (some ⟨b,0,none⟩)) = some (H.set b (.cells vs e (k + 1)),b):=by
  have h1:(Value.agg vs.toArray).cells = vs.toArray:=rfl
  simp only [astore,hb,h1,hs,spliceQ_eq]
  rw [if_pos ⟨by simp,by simp; omega,rfl,by simpa using ho⟩,splice_allW _ _ _ (by simp; omega)]
  simp only [List.take_zero,List.nil_append,Nat.zero_add]
  rw [List.drop_eq_nil_of_le (by omega),List.append_nil]
end Go.AI
namespace Go.Proofs.Ytglkphjjinmgmaa
open Go.AI
theorem cell_loadW {H:Heap} {b i:Nat} {cs:List Value} {e t:TypeId} {k:Nat} {x:Value} (ha:isAggB Try.prog t = some false) (hg:H.get b = some (.cells cs e k)) (hx:cs[i]? = some x):aload Try.prog t H (.pointer (some ⟨b,i,none⟩)) = some x:=by
  simp [aload,hg,ha,hx]
theorem keep_putW {H H1 H2:Heap} {b:Nat} (k:Keep H H1) (hb:H.n<=b) (ho:∀ c,c ≠ b->H2.get c = H1.get c) (hn:H2.n = H1.n):Keep H H2 :=
  ⟨by rw [hn]; exact k.1,fun c hc=>by rw [ho c (by omega)]; exact k.2 c hc⟩
theorem ag41:isAggB Try.prog 27 = some true:=by kernel_rfl
theorem sz41:sizeB Try.prog 27 = some 2:=by kernel_rfl
theorem ag87:isAggB Try.prog 104 = some true:=by kernel_rfl
theorem sz87:sizeB Try.prog 104 = some 2:=by kernel_rfl
theorem ag82:isAggB Try.prog 99 = some true:=by kernel_rfl
theorem sz82:sizeB Try.prog 99 = some 2:=by kernel_rfl
theorem ag48:isAggB Try.prog 32 = some true:=by kernel_rfl
theorem sz48:sizeB Try.prog 32 = some 7:=by kernel_rfl
theorem ag28:isAggB Try.prog 25 = some true:=by kernel_rfl
theorem sz28:sizeB Try.prog 25 = some 2:=by kernel_rfl
theorem ag25:isAggB Try.prog 22 = some false:=by kernel_rfl
theorem ag26:isAggB Try.prog 23 = some false:=by kernel_rfl
theorem ag4:isAggB Try.prog 4 = some false:=by kernel_rfl
theorem un25:Try.prog.underlying 22 = some (.slice 32):=by kernel_rfl
theorem un26:Try.prog.underlying 23 = some (.slice 99):=by kernel_rfl
theorem foS0:fieldOff Try.prog 27 0 = some (0,1):=by kernel_rfl
theorem foS1:fieldOff Try.prog 27 1 = some (1,1):=by kernel_rfl
theorem foT0:fieldOff Try.prog 99 0 = some (0,1):=by kernel_rfl
theorem foT1:fieldOff Try.prog 99 1 = some (1,1):=by kernel_rfl
theorem foF0:fieldOff Try.prog 25 0 = some (0,1):=by kernel_rfl
theorem foF1:fieldOff Try.prog 25 1 = some (1,1):=by kernel_rfl
theorem foC0:fieldOff Try.prog 32 0 = some (0,2):=by kernel_rfl
theorem foC1:fieldOff Try.prog 32 1 = some (2,2):=by kernel_rfl
theorem foC2:fieldOff Try.prog 32 2 = some (4,2):=by kernel_rfl
theorem foC3:fieldOff Try.prog 32 3 = some (6,1):=by kernel_rfl
theorem un87:Try.prog.underlying 104 = some (.array 2 3):=by kernel_rfl
theorem zero87:zeroCellsW Try.prog 104 = some (Hl (0,0)):=by kernel_rfl
theorem zero82:zeroCellsW Try.prog 99 = some (Hl (0,0)):=by kernel_rfl
theorem zero41:zeroCellsW Try.prog 27 = some (Hl (0,0)):=by kernel_rfl
theorem zero48:zeroCellsW Try.prog 32 = some (Col ⟨0,0,0,0,0,0,false⟩):=by kernel_rfl
theorem al87 {H:Heap}:sAlloc Try.prog H 104 = some (.pointer (some ⟨H.n,0,none⟩),H.new (.cells (Hl (0,0)) 104 1),H.n):=alloc_ofW zero87
theorem al82 {H:Heap}:sAlloc Try.prog H 99 = some (.pointer (some ⟨H.n,0,none⟩),H.new (.cells (Hl (0,0)) 99 1),H.n):=alloc_ofW zero82
theorem al41 {H:Heap}:sAlloc Try.prog H 27 = some (.pointer (some ⟨H.n,0,none⟩),H.new (.cells (Hl (0,0)) 27 1),H.n):=alloc_ofW zero41
theorem al48 {H:Heap}:sAlloc Try.prog H 32 = some (.pointer (some ⟨H.n,0,none⟩),H.new (.cells (Col ⟨0,0,0,0,0,0,false⟩) 32 1),H.n):=alloc_ofW zero48
theorem ld87 {H:Heap} {b:Nat} {p:Int × Int} {e:TypeId} {k:Nat} (hg:H.get b = some (.cells (Hl p) e k)):aload Try.prog 104 H (.pointer (some ⟨b,0,none⟩)) = some (Hv p):=agg_load ag87 sz87 hg (Nat.le_refl _)
theorem ld82 {H:Heap} {b:Nat} {p:Int × Int} {e:TypeId} {k:Nat} (hg:H.get b = some (.cells (Hl p) e k)):aload Try.prog 99 H (.pointer (some ⟨b,0,none⟩)) = some (Hv p):=agg_load ag82 sz82 hg (Nat.le_refl _)
theorem ld41 {H:Heap} {b:Nat} {p:Int × Int} {e:TypeId} {k:Nat} (hg:H.get b = some (.cells (Hl p) e k)):aload Try.prog 27 H (.pointer (some ⟨b,0,none⟩)) = some (Hv p):=agg_load ag41 sz41 hg (Nat.le_refl _)
theorem ld48 {H:Heap} {b:Nat} {c:Co} {e:TypeId} {k:Nat} (hg:H.get b = some (.cells (Col c) e k)):aload Try.prog 32 H (.pointer (some ⟨b,0,none⟩)) = some (Cov c):=agg_load ag48 sz48 hg (Nat.le_refl _)
theorem st87 {H:Heap} {b k:Nat} {p q:Int × Int} {e:TypeId} (hg:H.get b = some (.cells (Hl p) e (k + 1))):astore Try.prog 104 H (Hv q) (.pointer (some ⟨b,0,none⟩)) = some (H.set b (.cells (Hl q) e (k + 1)),b):=store_allW (vs:=Hl q) hg rfl sz87 rfl
theorem st82 {H:Heap} {b k:Nat} {p q:Int × Int} {e:TypeId} (hg:H.get b = some (.cells (Hl p) e (k + 1))):astore Try.prog 99 H (Hv q) (.pointer (some ⟨b,0,none⟩)) = some (H.set b (.cells (Hl q) e (k + 1)),b):=store_allW (vs:=Hl q) hg rfl sz82 rfl
theorem st41 {H:Heap} {b k:Nat} {p q:Int × Int} {e:TypeId} (hg:H.get b = some (.cells (Hl p) e (k + 1))):astore Try.prog 27 H (Hv q) (.pointer (some ⟨b,0,none⟩)) = some (H.set b (.cells (Hl q) e (k + 1)),b):=store_allW (vs:=Hl q) hg rfl sz41 rfl
theorem st48 {H:Heap} {b k:Nat} {c d:Co} {e:TypeId} (hg:H.get b = some (.cells (Col c) e (k + 1))):astore Try.prog 32 H (Cov d) (.pointer (some ⟨b,0,none⟩)) = some (H.set b (.cells (Col d) e (k + 1)),b):=store_allW (vs:=Col d) hg rfl sz48 rfl
theorem bu87 {x y:Int}:abuild Try.prog 104 [(0,VJ x),(1,VJ y)] = some (Hv (x,y)):=by kernel_rfl
theorem bu82 {x y:Int}:abuild Try.prog 99 [(0,VJ x),(1,VJ y)] = some (Hv (x,y)):=by kernel_rfl
theorem bu41 {x y:Int}:abuild Try.prog 27 [(0,VJ x),(1,VJ y)] = some (Hv (x,y)):=by kernel_rfl
theorem bu127 {p q:Int × Int}:abuild Try.prog 147 [(0,Hv p),(1,Hv q)] = some (.agg #[VJ p.1,VJ p.2,VJ q.1,VJ q.2]):=by kernel_rfl
theorem ix127a {p q:Int × Int}:aindex Try.prog 147 (.agg #[VJ p.1,VJ p.2,VJ q.1,VJ q.2]) (VJ 0) = some (Hv p):=by kernel_rfl
theorem ix127b {p q:Int × Int}:aindex Try.prog 147 (.agg #[VJ p.1,VJ p.2,VJ q.1,VJ q.2]) (VJ 1) = some (Hv q):=by kernel_rfl
theorem ix87a {p:Int × Int}:aindex Try.prog 104 (Hv p) (VJ 0) = some (VJ p.1):=by kernel_rfl
theorem ix87b {p:Int × Int}:aindex Try.prog 104 (Hv p) (VJ 1) = some (VJ p.2):=by kernel_rfl
theorem fS {b i f:Nat} {o n:Nat} {t:TypeId} (h:fieldOff Try.prog t f = some (o,n)) (hn:n ≠ 0):afieldAddr Try.prog t (.pointer (some ⟨b,i,none⟩)) f = some (.pointer (some ⟨b,i + o,none⟩)):=field_addr h hn
theorem allocHv {H:Heap} {p:Int × Int} {e:TypeId}:anew H (Value.cells (Hv p)).toList e 1 = H.new (.cells (Hl p) e 1):=rfl
theorem allocFv {H:Heap} {c t:Value} (h1:c.cells.toList = [c]) (h2:t.cells.toList = [t]):anew H (Value.cells (Fv c t)).toList 25 1 = H.new (.cells (Fl c t) 25 1):=by
  have:(Value.cells (Fv c t)).toList = c.cells.toList ++ (t.cells.toList ++ []):=by
    rw [h1,h2]; rfl
  rw [this,h1,h2]; rfl
theorem cs_len {H:Heap} {v:Value} {l:List Co} (h:RowS 7 H v (l.map Col)):alen Try.prog H 22 v = some (.int .i64 l.length):=by
  have:=h.alen un25; rwa [List.length_map] at this
theorem ts_len {H:Heap} {v:Value} {l:List (Int × Int)} (h:RowS 2 H v (l.map Hl)):alen Try.prog H 23 v = some (.int .i64 l.length):=by
  have:=h.alen un26; rwa [List.length_map] at this
theorem cs_addr {H:Heap} {v:Value} {l:List Co} (h:RowS 7 H v (l.map Col)) {n:Int} (h0:0<=n) (h1:n < l.length):aindexAddr Try.prog 22 v (.int .i64 n) = some (elemS v 7 n.toNat):=h.addr un25 sz48 h0 (by rw [List.length_map]; exact h1)
theorem ts_addr {H:Heap} {v:Value} {l:List (Int × Int)} (h:RowS 2 H v (l.map Hl)) {n:Int} (h0:0<=n) (h1:n < l.length):aindexAddr Try.prog 23 v (.int .i64 n) = some (elemS v 2 n.toNat):=h.addr un26 sz82 h0 (by rw [List.length_map]; exact h1)
theorem col_at {l:List Co} {j:Nat} (hj:j < l.length):(l.map Col)[j]? = some (Col l[j]!):=by rw [List.getElem?_map,List.getElem?_eq_getElem hj,getElem!_pos l j hj]; rfl
theorem hl_at {l:List (Int × Int)} {j:Nat} (hj:j < l.length):(l.map Hl)[j]? = some (Hl l[j]!):=by rw [List.getElem?_map,List.getElem?_eq_getElem hj,getElem!_pos l j hj]; rfl
theorem cs_load {H:Heap} {v:Value} {l:List Co} (h:RowS 7 H v (l.map Col)) {j:Nat} (hj:j < l.length):aload Try.prog 32 H (elemS v 7 j) = some (Cov l[j]!):=h.load ag48 sz48 (col_at hj)
theorem ts_load {H:Heap} {v:Value} {l:List (Int × Int)} (h:RowS 2 H v (l.map Hl)) {j:Nat} (hj:j < l.length):aload Try.prog 99 H (elemS v 2 j) = some (Hv l[j]!):=h.load ag82 sz82 (hl_at hj)
theorem RowS_sub {s n o j:Nat} {H:Heap} {v:Value} {rs:List (List Value)} {t:TypeId} {r:List Value} (h:RowS s H v rs) (ha:isAggB Try.prog t = some true) (hs:sizeB Try.prog t = some n) (hj:rs[j]? = some r) (hn:o + n<=s):aload Try.prog t H (fieldOf (elemS v s j) o) = some (.agg ((r.drop o).take n).toArray):=by
  have hlen:=h.1 r (List.mem_of_getElem? hj)
  rcases h.2 with ⟨rfl,rfl⟩ | ⟨rfl,rfl⟩ | ⟨b,i,c,cs,e',k,rfl,_,hb,_,hle,hc⟩
  · simp at hj
  · simp at hj
  · have hjl:=(List.getElem?_eq_some_iff.1 hj).1
    have hm:(j + 1) * s<=rs.length * s:=Nat.mul_le_mul_right _ hjl
    rw [Nat.succ_mul] at hm
    simp only [aload,elemS,fieldOf,hb,ha,hs]
    rw [if_pos (by omega)]
    suffices key:(List.drop (i + j * s + o) cs).take n = (r.drop o).take n by rw [key]
    apply List.ext_getElem?
    intro q
    by_cases hq:q < n
    · rw [List.getElem?_take_of_lt hq,List.getElem?_drop,List.getElem?_take_of_lt hq,List.getElem?_drop,show i + j * s + o + q = i + j * s + (o + q) by omega,hc j (o + q) r r[o + q] hj (List.getElem?_eq_getElem (by omega)),List.getElem?_eq_getElem (by omega)]
    · rw [List.getElem?_eq_none (by simp; omega),List.getElem?_eq_none (by simp; omega)]
theorem cs_f {H:Heap} {v:Value} {l:List Co} (h:RowS 7 H v (l.map Col)) {f o n j:Nat} (hf:fieldOff Try.prog 32 f = some (o,n)) (hn:n ≠ 0) (hj:j < l.length):afieldAddr Try.prog 32 (elemS v 7 j) f = some (fieldOf (elemS v 7 j) o):=h.faddr hf hn (by rw [List.length_map]; exact hj)
theorem cs_catch {H:Heap} {v:Value} {l:List Co} (h:RowS 7 H v (l.map Col)) {j:Nat} (hj:j < l.length):aload Try.prog 27 H (fieldOf (elemS v 7 j) 0) = some (Hv (l[j]!.cl,l[j]!.ch)):=RowS_sub h ag41 sz41 (col_at hj) (by omega)
theorem cs_burn {H:Heap} {v:Value} {l:List Co} (h:RowS 7 H v (l.map Col)) {j:Nat} (hj:j < l.length):aload Try.prog 27 H (fieldOf (elemS v 7 j) 2) = some (Hv (l[j]!.bl,l[j]!.bh)):=RowS_sub h ag41 sz41 (col_at hj) (by omega)
set_option maxRecDepth 100000 in
theorem knownOf_spec1 {B:Nat} {H:Heap} {p:Int × Int} (hB:B<=H.n) :
    CallB Try.prog B 93 [Hv p] H (fun r H'=>r = Hv p∧Keep H H'):=by
  refine CV.enter callees1 false rfl Try.func93 rfl (by kernel_rfl) (Nat.le_of_ble_eq_true rfl) hB ?_
  repeat' first | refine CO.cons rfl ?_ | refine CV.seq ?_ | refine CV.region callees1 ?_ | fail
  refine ⟨(by simp only [notTuple]),?_⟩
  rw [allocHv]
  generalize hs0:H.new _ = H0
  have hg0:=new_get hs0
  have k0:=new_keep hs0
  have n0:=new_n hs0
  obtain ⟨b0,hb0⟩:∃ b0,H.n = b0:=⟨_,rfl⟩
  rw [hb0] at hg0 n0 ⊢
  repeat' first | refine CO.cons rfl ?_ | refine CO.nil ?_ | refine CV.seq ?_ | refine CV.region callees1 ?_ | refine ⟨_,_,al87,?_⟩ | fail
  generalize hs1:H0.new _ = H1
  have hg1:=new_get hs1
  have k1:=new_keep hs1
  have n1:=new_n hs1
  obtain ⟨b1,hb1⟩:∃ b1,H0.n = b1:=⟨_,rfl⟩
  rw [hb1] at hg1 n1 ⊢
  have hg01:H1.get b0 = some (.cells (Hl p) 27 1):=by rw [k1.2 b0 (by omega)]; exact hg0
  repeat' first | refine CO.cons rfl ?_ | refine ⟨_,fS foS0 (by decide),?_⟩ | refine ⟨_,fS foS1 (by decide),?_⟩ | refine ⟨_,cell_loadW ag3 hg01 rfl,?_⟩ | refine ⟨_,bu87,?_⟩ | fail
  refine ⟨_,_,st87 hg1,by omega,?_⟩
  generalize hs2:Heap.set H1 b1 _ = H2
  have hg2:=set_get hs2
  have n2:=set_n hs2
  have o2:=set_old hs2
  repeat' first | refine CO.nil ?_ | refine CV.ret ?_ | fail
  exact ⟨_,ld87 hg2,rfl,rfl,keep_putW (k0.trans k1) (by omega) o2 n2⟩
set_option maxRecDepth 100000 in
theorem other_spec1 {B:Nat} {H:Heap} {e:Int} (hB:B<=H.n) (he:e = 0 ∨ e = 1) :
    CallB Try.prog B 106 [VJ e] H (fun r H'=>r = VJ (1 - e)∧Keep H H'):=by
  refine CV.enter callees1 false rfl Try.func106 rfl (by kernel_rfl) (Nat.le_of_ble_eq_true rfl) hB ?_
  repeat' first | refine CO.cons rfl ?_ | refine CO.nil ?_ | refine CV.seq ?_ | refine CV.region callees1 ?_ | refine CV.ret ?_ | refine ⟨(⟨by omega,by omega⟩:inI64 _),?_⟩ | fail
  exact ⟨rfl,rfl,Keep.refl _⟩
def Wy (ts:List (Int × Int)) (i:Nat) (p:Int × Int):Prop:=∃ k,k < i∧(ts[k]! = p ∨ ts[k]! = (p.2,p.1))
abbrev tm (e:Int) (cs:List Co) (p:Int × Int):Int:=ca e (coAt cs p.2)
def lit (e:Int) (cs:List Co) (p:Int × Int):Prop:=ca e (coAt cs p.2)<=bu e (coAt cs p.1)
theorem wy_arc {e:Int} {cs:List Co} {ts:List (Int × Int)} {p:Int × Int}:(Wy ts ts.length p∧lit e cs p) ↔ Arc e cs ts p:=by
  unfold Arc lit
  refine and_congr ⟨?_,?_⟩ Iff.rfl
  · rintro ⟨k,hk,h | h⟩
    · left; rw [<- h,getElem!_pos ts k hk]; exact List.getElem_mem hk
    · right; rw [<- h,getElem!_pos ts k hk]; exact List.getElem_mem hk
  · rintro (h | h)
    · obtain ⟨i,hi,h⟩:=mem_ats h; exact ⟨i,hi,.inl h⟩
    · obtain ⟨i,hi,h⟩:=mem_ats h; exact ⟨i,hi,.inr h⟩
def wayOf (t:Int × Int) (j:Nat):Int × Int:=bif Nat.beq j 0 then t else (t.2,t.1)
theorem ix127 {t:Int × Int} {j:Nat} (hj:j < 2):aindex Try.prog 147 (.agg #[VJ t.1,VJ t.2,VJ t.2,VJ t.1]) (VJ j) = some (Hv (wayOf t j)):=by
  match j,hj with
  | 0,_=>exact ix127a (p:=t) (q:=(t.2,t.1))
  | 1,_=>exact ix127b (p:=t) (q:=(t.2,t.1))
theorem ixk {x y:Int} {e:Int} (he:e = 0 ∨ e = 1):aindex Try.prog 104 (Hv (x,y)) (VJ e) = some (VJ (if e = 0 then x else y)):=by
  rcases he with rfl | rfl
  · exact ix87a
  · exact ix87b
theorem ixo {x y:Int} {e:Int} (he:e = 0 ∨ e = 1):aindex Try.prog 104 (Hv (x,y)) (VJ (1 - e)) = some (VJ (if e = 0 then y else x)):=by
  rcases he with rfl | rfl
  · exact ix87b
  · exact ix87a
set_option maxHeartbeats 4000000 in
set_option maxRecDepth 100000 in
theorem catching_spec {B:Nat} {H:Heap} {cv tv:Value} {cs:List Co} {ts:List (Int × Int)} {e:Int} (hB:B<=H.n) (hc:RowS 7 H cv (cs.map Col)) (ht:RowS 2 H tv (ts.map Hl)) (hf:FOk cs ts) (he:e = 0 ∨ e = 1) :
    CallB Try.prog B 103 [Fv cv tv,VJ e] H (fun r H'=>(∃ M b,r = .map (some b)∧H.n<=b∧b < H'.n∧H'.get b = some (.map (ents (tm e cs) M))∧∀ p,p ∈ M ↔ Arc e cs ts p)∧Keep H H'):=by
  have hn12:=hf.n
  have hm40:=hf.m
  refine CV.enter callees1 false rfl Try.func103 rfl (by kernel_rfl) (Nat.le_of_ble_eq_true rfl) hB ?_
  repeat' first | refine CO.cons rfl ?_ | refine CV.seq ?_ | refine CV.region callees1 ?_ | fail
  refine ⟨(by simp only [notTuple]),?_⟩
  rw [allocFv hc.cells.1 ht.cells.1]
  generalize hs0:H.new _ = H0
  have hg0:=new_get hs0
  have k0:=new_keep hs0
  have n0:=new_n hs0
  obtain ⟨br,hbr⟩:∃ br,H.n = br:=⟨_,rfl⟩
  rw [hbr] at hg0 n0 ⊢
  repeat' first | refine CO.cons rfl ?_ | refine CO.nil ?_ | refine CV.seq ?_ | refine CV.region callees1 ?_ | fail
  generalize hs1:H0.new _ = H1
  have hg1:=new_get hs1
  have k1:=new_keep hs1
  have n1:=new_n hs1
  obtain ⟨bm,hbm⟩:∃ bm,H0.n = bm:=⟨_,rfl⟩
  rw [hbm] at hg1 n1 ⊢
  have k01:=k0.trans k1
  have hr1:H1.get br = some (.cells (Fl cv tv) 25 1):=by rw [k1.2 br (by omega)]; exact hg0
  have ht1:=ht.keep k01
  repeat' first | refine CO.cons rfl ?_ | refine CO.nil ?_ | refine CV.block ?_ | refine ⟨_,fS foF1 (by decide),?_⟩ | refine ⟨_,cell_loadW ag26 hr1 rfl,?_⟩ | refine ⟨_,ts_len ht1,?_⟩ | fail
  refine CV.loopc ?_
  refine WCv.rounds callees1 false (α:=List (Int × Int) × Nat) (fun (M,i)=>[(1,VJ e),(2,.pointer (some ⟨br,0,none⟩)),(5,.map (some bm)),(13,tv),(14,VJ ts.length),(15,VJ i)]) (fun (M,i) Hz=>i<=ts.length∧Hz.get bm = some (.map (ents (tm e cs) M))∧Hz.get br = some (.cells (Fl cv tv) 25 1)∧(∀ p,p ∈ M ↔ Wy ts i p∧lit e cs p)∧Keep H Hz∧bm < Hz.n) (fun (M,i)=>ts.length - i) ([],0) (by repeat' first | exact trivial | refine ⟨rfl,?_⟩ | refine ⟨slot_int (by (try simp only [Int.toNat_natCast]); omega),?_⟩) ?_ ?_
  · exact ⟨by omega,hg1,hr1,fun p=>by simp [Wy],k01,by omega⟩
  rintro ⟨M,i⟩ Hx ⟨hi,hgx,hrx,hM,kx,lx⟩ hBx
  have hcx:=hc.keep kx
  have htx:=ht.keep kx
  by_cases hi2:i < ts.length
  · have hti:=hf.t i hi2
    repeat' first | refine CO.cons rfl ?_ | refine CO.nil ?_ | refine CV.seq ?_ | refine CV.region callees1 ?_ | refine CV.cond ?_ | refine CV.block ?_ | refine CV.skip ?_ | refine ⟨_,ts_addr htx (by omega) (by omega),?_⟩ | refine ⟨_,ts_load htx hi2,?_⟩ | refine ⟨_,_,al82,?_⟩ | (refine ⟨fun _=>?_,fun _=>?_⟩<;>try (exfalso; omega)) | fail
    generalize hs2:Hx.new _ = H2
    have hg2:=new_get hs2
    have k2:=new_keep hs2
    have n2:=new_n hs2
    obtain ⟨bt,hbt⟩:∃ bt,Hx.n = bt:=⟨_,rfl⟩
    rw [hbt] at hg2 n2 ⊢
    repeat' first | fail
    refine ⟨_,_,st82 hg2,by omega,?_⟩
    generalize hs3:Heap.set H2 bt _ = H3
    have hg3:H3.get bt = some (.cells (Hl ts[i]!) 99 1):=set_get hs3
    have n3:=set_n hs3
    have o3:=set_old hs3
    have k3:Keep Hx H3:=keep_putW k2 (by omega) o3 n3
    obtain ⟨t0,ht0⟩:∃ t0,ts[i]! = t0:=⟨_,rfl⟩
    rw [ht0] at hg3 hti
    repeat' first | refine CO.cons rfl ?_ | refine CO.nil ?_ | refine CV.seq ?_ | refine CV.region callees1 ?_ | refine CV.block ?_ | refine ⟨_,ld82 hg3,?_⟩ | refine ⟨_,fS foT0 (by decide),?_⟩ | refine ⟨_,fS foT1 (by decide),?_⟩ | refine ⟨_,cell_loadW ag3 hg3 rfl,?_⟩ | refine ⟨_,bu82,?_⟩ | refine ⟨_,bu127,?_⟩ | fail
    have hgm3:H3.get bm = some (.map (ents (tm e cs) M)):=by rw [k3.2 bm (by omega)]; exact hgx
    have hgr3:H3.get br = some (.cells (Fl cv tv) 25 1):=by rw [k3.2 br (by omega)]; exact hrx
    have kx3:=kx.trans k3
    refine CV.loopc ?_
    refine WCv.rounds callees1 false (α:=List (Int × Int) × Nat) (fun (M',j)=>[(1,VJ e),(2,.pointer (some ⟨br,0,none⟩)),(5,.map (some bm)),(13,tv),(14,VJ ts.length),(15,VJ i),(25,.agg #[VJ t0.1,VJ t0.2,VJ t0.2,VJ t0.1]),(26,VJ j)]) (fun (M',j) Hz=>j<=2∧Hz.get bm = some (.map (ents (tm e cs) M'))∧Hz.get br = some (.cells (Fl cv tv) 25 1)∧(∀ p,p ∈ M' ↔ p ∈ M ∨ (∃ q,q < j∧wayOf t0 q = p)∧lit e cs p)∧Keep H Hz∧bm < Hz.n) (fun (M',j)=>2 - j) (M,0) (by repeat' first | exact trivial | refine ⟨rfl,?_⟩ | refine ⟨slot_int (by (try simp only [Int.toNat_natCast]); omega),?_⟩) ?_ ?_
    · exact ⟨by omega,hgm3,hgr3,fun p=>by simp,kx3,by omega⟩
    clear hgx hrx kx hcx htx hgm3 hgr3 kx3 hg3 k3
    rintro ⟨M',j⟩ Hy ⟨hj,hgy,hry,hM',ky,ly⟩ hBy
    have hcy:=hc.keep ky
    by_cases hj2:j < 2
    · obtain ⟨w,hw⟩:∃ w,wayOf t0 j = w:=⟨_,rfl⟩
      have hwb:(0<=w.1∧w.1 < cs.length)∧(0<=w.2∧w.2 < cs.length):=by
        rw [<- hw]; unfold wayOf
        cases Nat.beq j 0
        · exact ⟨hti.2.1,hti.1⟩
        · exact ⟨hti.1,hti.2.1⟩
      repeat' first | refine CO.cons rfl ?_ | refine CO.nil ?_ | refine CV.seq ?_ | refine CV.region callees1 ?_ | refine CV.cond ?_ | refine CV.block ?_ | refine CV.skip ?_ | refine ⟨_,ix127 hj2,?_⟩ | refine ⟨_,_,al82,?_⟩ | (refine ⟨fun _=>?_,fun _=>?_⟩<;>try (exfalso; omega)) | fail
      generalize hs4:Hy.new _ = H4
      have hg4:=new_get hs4
      have k4:=new_keep hs4
      have n4:=new_n hs4
      obtain ⟨bw,hbw⟩:∃ bw,Hy.n = bw:=⟨_,rfl⟩
      rw [hbw] at hg4 n4 ⊢
      repeat' first | fail
      refine ⟨_,_,st82 hg4,by omega,?_⟩
      generalize hs5:Heap.set H4 bw _ = H5
      have hg5:H5.get bw = some (.cells (Hl (wayOf t0 j)) 99 1):=set_get hs5
      have n5:=set_n hs5
      have o5:=set_old hs5
      have k5:Keep Hy H5:=keep_putW k4 (by omega) o5 n5
      rw [hw] at hg5
      have hr5:H5.get br = some (.cells (Fl cv tv) 25 1):=by rw [k5.2 br (by omega)]; exact hry
      have hgm5:H5.get bm = some (.map (ents (tm e cs) M')):=by rw [k5.2 bm (by omega)]; exact hgy
      have hc5:=hcy.keep k5
      have h1n:w.1.toNat < cs.length:=by omega
      have h2n:w.2.toNat < cs.length:=by omega
      have ky5:=ky.trans k5
      repeat' first | refine CO.cons rfl ?_ | refine CO.nil ?_ | refine CV.seq ?_ | refine CV.region callees1 ?_ | refine ⟨_,fS foF0 (by decide),?_⟩ | refine ⟨_,cell_loadW ag25 hr5 rfl,?_⟩ | refine ⟨_,fS foT1 (by decide),?_⟩ | refine ⟨_,cell_loadW ag3 hg5 rfl,?_⟩ | refine ⟨_,cs_addr hc5 (by omega) (by omega),?_⟩ | refine ⟨_,cs_f hc5 foC0 (by decide) h2n,?_⟩ | refine ⟨_,cs_catch hc5 h2n,?_⟩ | fail
      refine (knownOf_spec1 (by omega)).mono ?_
      rintro r H6 ⟨rfl,k6⟩
      have l6:=k6.1
      have hg6:H6.get bw = some (.cells (Hl w) 99 1):=by rw [k6.2 bw (by omega)]; exact hg5
      have hr6:H6.get br = some (.cells (Fl cv tv) 25 1):=by rw [k6.2 br (by omega)]; exact hr5
      have hgm6:H6.get bm = some (.map (ents (tm e cs) M')):=by rw [k6.2 bm (by omega)]; exact hgm5
      have hc6:=hc5.keep k6
      have ky6:=ky5.trans k6
      repeat' first | refine CO.cons rfl ?_ | refine CO.nil ?_ | refine CV.seq ?_ | refine CV.region callees1 ?_ | refine ⟨_,ixk he,?_⟩ | refine ⟨_,fS foF0 (by decide),?_⟩ | refine ⟨_,cell_loadW ag25 hr6 rfl,?_⟩ | refine ⟨_,cell_loadW ag3 hg6 rfl,?_⟩ | refine ⟨_,cs_addr hc6 (by omega) (by omega),?_⟩ | refine ⟨_,cs_f hc6 foC1 (by decide) h1n,?_⟩ | refine ⟨_,cs_burn hc6 h1n,?_⟩ | fail
      refine (knownOf_spec1 (by omega)).mono ?_
      rintro r H7 ⟨rfl,k7⟩
      have l7:=k7.1
      have hg7:H7.get bw = some (.cells (Hl w) 99 1):=by rw [k7.2 bw (by omega)]; exact hg6
      have hr7:H7.get br = some (.cells (Fl cv tv) 25 1):=by rw [k7.2 br (by omega)]; exact hr6
      have hgm7:H7.get bm = some (.map (ents (tm e cs) M')):=by rw [k7.2 bm (by omega)]; exact hgm6
      have ky7:=ky6.trans k7
      repeat' first | refine CO.cons rfl ?_ | fail
      refine (other_spec1 (by omega) he).mono ?_
      rintro r H8 ⟨rfl,k8⟩
      have l8:=k8.1
      have hg8:H8.get bw = some (.cells (Hl w) 99 1):=by rw [k8.2 bw (by omega)]; exact hg7
      have hr8:H8.get br = some (.cells (Fl cv tv) 25 1):=by rw [k8.2 br (by omega)]; exact hr7
      have hgm8:H8.get bm = some (.map (ents (tm e cs) M')):=by rw [k8.2 bm (by omega)]; exact hgm7
      have ky8:=ky7.trans k8
      have ec:(if e = 0 then cs[w.2.toNat]!.cl else cs[w.2.toNat]!.ch) = tm e cs w:=rfl
      have eb:(if e = 0 then cs[w.1.toNat]!.bh else cs[w.1.toNat]!.bl) = bu e (coAt cs w.1):=rfl
      rw [ec]
      repeat' first | refine CO.cons rfl ?_ | refine CO.nil ?_ | refine CV.region callees1 ?_ | refine CV.cond ?_ | refine CV.skip ?_ | refine ⟨(⟨by omega,by omega⟩:inI64 _),?_⟩ | refine ⟨_,ixo he,?_⟩ | (refine ⟨fun _=>?_,fun _=>?_⟩<;>try (exfalso; omega)) | fail
      · rename_i hcond
        rw [eb] at hcond
        repeat' first | refine CO.cons rfl ?_ | refine ⟨_,ld82 hg8,?_⟩ | fail
        refine ⟨_,_,updT hgm8,by omega,?_⟩
        generalize hs9:Heap.set H8 bm _ = H9
        have hg9:=set_get hs9
        have n9:=set_n hs9
        have o9:=set_old hs9
        repeat' first | refine CO.cons rfl ?_ | refine CO.nil ?_ | refine CV.region callees1 ?_ | refine ⟨(⟨by omega,by omega⟩:inI64 _),?_⟩ | fail
        refine ⟨(addK M' w,j + 1),(by repeat' first | exact trivial | refine ⟨rfl,?_⟩ | refine ⟨slot_int (by (try simp only [Int.toNat_natCast]); omega),?_⟩),(by (try dsimp only); omega),?_⟩
        refine ⟨by omega,hg9,by rw [o9 br (by omega)]; exact hr8,fun p=>?_,keep_putW ky8 (by omega) o9 n9,by omega⟩
        rw [mem_addK,hM']
        constructor
        · rintro ((h | ⟨⟨q,hq,h⟩,h2⟩) | rfl)
          · exact .inl h
          · exact .inr ⟨⟨q,by omega,h⟩,h2⟩
          · exact .inr ⟨⟨j,by omega,hw⟩,hcond⟩
        · rintro (h | ⟨⟨q,hq,h⟩,h2⟩)
          · exact .inl (.inl h)
          · by_cases hqj:q = j
            · subst hqj; exact .inr (by rw [<- h,hw])
            · exact .inl (.inr ⟨⟨q,by omega,h⟩,h2⟩)
      · rename_i hcond
        rw [eb] at hcond
        repeat' first | fail
        refine ⟨(M',j + 1),(by repeat' first | exact trivial | refine ⟨rfl,?_⟩ | refine ⟨slot_int (by (try simp only [Int.toNat_natCast]); omega),?_⟩),(by (try dsimp only); omega),?_⟩
        refine ⟨by omega,hgm8,hr8,fun p=>?_,ky8,by omega⟩
        rw [hM']
        constructor
        · rintro (h | ⟨⟨q,hq,h⟩,h2⟩)
          · exact .inl h
          · exact .inr ⟨⟨q,by omega,h⟩,h2⟩
        · rintro (h | ⟨⟨q,hq,h⟩,h2⟩)
          · exact .inl h
          · by_cases hqj:q = j
            · subst hqj
              rw [hw] at h
              subst h
              exact absurd h2 hcond
            · exact .inr ⟨⟨q,by omega,h⟩,h2⟩
    have hje:j = 2:=by omega
    subst hje
    repeat' first | refine CO.cons rfl ?_ | refine CO.nil ?_ | refine CV.seq ?_ | refine CV.region callees1 ?_ | refine CV.cond ?_ | refine CV.exit ?_ | refine ⟨(⟨by omega,by omega⟩:inI64 _),?_⟩ | (refine ⟨fun _=>?_,fun _=>?_⟩<;>try (exfalso; omega)) | fail
    refine ⟨(M',i + 1),(by repeat' first | exact trivial | refine ⟨rfl,?_⟩ | refine ⟨slot_int (by (try simp only [Int.toNat_natCast]); omega),?_⟩),(by (try dsimp only); omega),?_⟩
    refine ⟨by omega,hgy,hry,fun p=>?_,ky,ly⟩
    rw [hM',hM]
    constructor
    · rintro (⟨⟨k,hk,h⟩,h2⟩ | ⟨⟨q,hq,h⟩,h2⟩)
      · exact ⟨⟨k,by omega,h⟩,h2⟩
      · refine ⟨⟨i,by omega,?_⟩,h2⟩
        rw [ht0]
        unfold wayOf at h
        cases hb:Nat.beq q 0 with
        | true=>rw [hb] at h; exact .inl h
        | false=>rw [hb] at h; right; rw [<- h]; rfl
    · rintro ⟨⟨k,hk,h⟩,h2⟩
      by_cases hki:k = i
      · subst hki
        rw [ht0] at h
        rcases h with h | h
        · exact .inr ⟨⟨0,by omega,h⟩,h2⟩
        · exact .inr ⟨⟨1,by omega,by rw [h]; rfl⟩,h2⟩
      · exact .inl ⟨⟨k,by omega,h⟩,h2⟩
  have hie:i = ts.length:=by omega
  repeat' first | refine CO.cons rfl ?_ | refine CO.nil ?_ | refine CV.seq ?_ | refine CV.region callees1 ?_ | refine CV.cond ?_ | refine CV.exit ?_ | refine CV.ret ?_ | (refine ⟨fun _=>?_,fun _=>?_⟩<;>try (exfalso; omega)) | fail
  exact ⟨rfl,⟨M,bm,rfl,by omega,lx,hgx,fun p=>by rw [hM,hie]; exact wy_arc⟩,kx⟩
theorem filter_lt {α:Type} {p q:α->Bool}:∀ {l:List α},(∀ x ∈ l,q x = true->p x = true)->(∃ x,x ∈ l∧p x = true∧q x = false)->(l.filter q).length < (l.filter p).length
  | [],_,⟨x,h,_⟩=>by cases h
  | y :: l,h,⟨x,hx,h1,h2⟩=>by
    have hle:∀ {l:List α},(∀ x ∈ l,q x = true->p x = true)->(l.filter q).length<=(l.filter p).length:=by
      intro l
      induction l with
      | nil=>intro _; simp
      | cons z l ih =>
        intro h
        have:=ih fun x hx=>h x (by simp [hx])
        by_cases hq:q z = true
        · rw [List.filter_cons_of_pos hq,List.filter_cons_of_pos (h z (by simp) hq)]; simp; omega
        · rw [List.filter_cons_of_neg hq]
          by_cases hp:p z = true
          · rw [List.filter_cons_of_pos hp]; simp; omega
          · rw [List.filter_cons_of_neg hp]; omega
    have ht:=fun z hz=>h z (List.mem_cons_of_mem y hz)
    by_cases hq:q y = true
    · have hp:=h y (by simp) hq
      rw [List.filter_cons_of_pos hq,List.filter_cons_of_pos hp]
      have hne:x ≠ y:=by rintro rfl; rw [hq] at h2; cases h2
      have:=filter_lt ht ⟨x,(by simpa [hne] using hx),h1,h2⟩
      simp; omega
    · rw [List.filter_cons_of_neg hq]
      by_cases hp:p y = true
      · rw [List.filter_cons_of_pos hp]
        have:=hle ht
        simp; omega
      · rw [List.filter_cons_of_neg hp]
        have hne:x ≠ y:=by rintro rfl; exact hp h1
        exact filter_lt ht ⟨x,(by simpa [hne] using hx),h1,h2⟩
theorem getS_out {l:List Int} {i a:Nat} {x:Int} (ha:¬ a < l.length):(l.set i x)[a]! = l[a]!:=by
  rw [getElem!_neg (l.set i x) a (by rw [List.length_set]; exact ha),getElem!_neg l a ha]
def dN (Bs:List Int) (x:Int):Nat:=(Bs.filter fun y=>decide (y < x)).length
theorem mem_atI {l:List Int} {i:Nat} (h:i < l.length):l[i]! ∈ l:=by rw [getElem!_pos l i h]; exact List.getElem_mem h
theorem dN_lt {Bs:List Int} {x:Int} {a:Nat} (ha:a < Bs.length) (h:Bs[a]! < x):dN Bs Bs[a]! < dN Bs x :=
  filter_lt (fun y _ hy=>by simp only [decide_eq_true_eq] at hy ⊢; omega) ⟨Bs[a]!,mem_atI ha,decide_eq_true h,decide_eq_false (Int.lt_irrefl _)⟩
theorem dN_top {Bs:List Int} {a:Nat} (ha:a < Bs.length):dN Bs Bs[a]! < Bs.length:=by
  have:=filter_lt (l:=Bs) (p:=fun _=>true) (q:=fun y=>decide (y < Bs[a]!)) (fun _ _ _=>rfl) ⟨Bs[a]!,mem_atI ha,rfl,decide_eq_false (Int.lt_irrefl _)⟩
  rw [List.filter_eq_self.2 (fun _ _=>rfl)] at this
  exact this
theorem dN_zero {Bs:List Int} {x:Int} (h:∀ i:Nat,i < Bs.length->x<=Bs[i]!):dN Bs x = 0:=by
  unfold dN
  rw [List.length_eq_zero_iff,List.filter_eq_nil_iff]
  intro y hy
  obtain ⟨i,hi,rfl⟩:=List.mem_iff_getElem.1 hy
  have:=h i hi
  rw [getElem!_pos Bs i hi] at this
  simp; omega
structure Lev (cs:List Co) (Bs:List Int) (r:Nat) (B:List Int):Prop where
  len:B.length = cs.length
  bd:∀ i:Nat,i < cs.length->Bs[i]!<=B[i]!∧B[i]!<=1000000
  at_:∀ i:Nat,i < cs.length->dN Bs Bs[i]!<=r->B[i]! = Bs[i]!
structure Mid (e:Int) (cs:List Co) (Bs B1:List Int) (M:List (Int × Int)) (seen:List Nat) (B:List Int):Prop where
  len:B.length = cs.length
  bd:∀ i:Nat,i < cs.length->Bs[i]!<=B[i]!∧B[i]!<=B1[i]!
  on:∀ k ∈ seen,k < M.length∧B[(M[k]!).2.toNat]!<=B1[(M[k]!).1.toNat]! + tm e cs M[k]!
theorem Lev.init {e:Int} {cs:List Co} {ts:List (Int × Int)} {Bs:List Int} (hf:FOk cs ts) (h:IsBeg e cs ts Bs):Lev cs Bs 0 (initB cs):=by
  have hl:=h.len
  refine ⟨by simp [initB],fun i hi=>?_,fun i hi hd=>?_⟩
  · have:=h.lo i (by omega)
    rw [initB_at hi]
    cases hlt:cs[i]!.lt with
    | true=>rw [h.lit i (by omega) hlt]; exact ⟨Int.le_refl _,by decide⟩
    | false=>exact ⟨this.2,Int.le_refl _⟩
  · rw [initB_at hi]
    cases hlt:cs[i]!.lt with
    | true=>rw [h.lit i (by omega) hlt]; rfl
    | false =>
      rcases h.via i (by omega) hlt with h2 | ⟨p,hp,hpi,h3,_⟩
      · rw [h2]; rfl
      · have h4:=hp.ok hf
        have h5:=ca_pos (e:=e) hf h4.2.1.1 h4.2.1.2
        have:=dN_lt (Bs:=Bs) (x:=Bs[i]!) (a:=p.1.toNat) (by omega) (by omega)
        omega
theorem Lev.mid {e:Int} {cs:List Co} {Bs B1:List Int} {M:List (Int × Int)} {r:Nat} (h:Lev cs Bs r B1):Mid e cs Bs B1 M [] B1 :=
  ⟨h.len,fun i hi=>⟨(h.bd i hi).1,Int.le_refl _⟩,fun k hk=>by cases hk⟩
theorem Mid.step {e:Int} {cs:List Co} {ts:List (Int × Int)} {Bs B1 B:List Int} {M:List (Int × Int)} {seen:List Nat} {k:Nat} {p:Int × Int} (hf:FOk cs ts) (hb:IsBeg e cs ts Bs) (hp:Arc e cs ts p) (h:Mid e cs Bs B1 M seen B) (hk:k < M.length) (hkp:M[k]! = p) :
    Mid e cs Bs B1 M (seen ++ [k]) (B.set p.2.toNat (min B[p.2.toNat]! (B[p.1.toNat]! + tm e cs p))):=by
  have hl:=h.len
  have h4:=hp.ok hf
  have ha:=h.bd p.1.toNat (by omega)
  have hb2:=h.bd p.2.toNat (by omega)
  have hle:=hb.le p hp
  refine ⟨by rw [List.length_set]; exact h.len,fun i hi=>?_,fun q hq=>?_⟩
  · have hi':=h.bd i hi
    rw [getS (by omega)]
    split
    · rename_i he
      subst he
      show _<=min _ (_ + ca e (coAt cs p.2))∧min _ (_ + ca e (coAt cs p.2))<=_
      omega
    · exact hi'
  · rw [List.mem_append] at hq
    rcases hq with hq | hq
    · obtain ⟨h1,h2⟩:=h.on q hq
      refine ⟨h1,?_⟩
      by_cases he:p.2.toNat = (M[q]!).2.toNat
      · rw [<- he,getS (by omega),if_pos rfl]
        rw [<- he] at h2
        omega
      · by_cases hin:(M[q]!).2.toNat < B.length
        · rw [getS hin,if_neg he]; exact h2
        · rw [getS_out hin]; exact h2
    · have:q = k:=by simpa using hq
      subst this
      refine ⟨hk,?_⟩
      rw [hkp,getS (by omega),if_pos rfl]
      show min _ (_ + ca e (coAt cs p.2))<=_ + ca e (coAt cs p.2)
      omega
theorem Mid.end_ {e:Int} {cs:List Co} {ts:List (Int × Int)} {Bs B1 B:List Int} {M:List (Int × Int)} {seen:List Nat} {r:Nat} (hf:FOk cs ts) (hb:IsBeg e cs ts Bs) (hM:∀ p,p ∈ M ↔ Arc e cs ts p) (h1:Lev cs Bs r B1) (h:Mid e cs Bs B1 M seen B) (hall:∀ k,k < M.length->k ∈ seen):Lev cs Bs (r + 1) B:=by
  have hbl:=hb.len
  refine ⟨h.len,fun i hi=>?_,fun i hi hd=>?_⟩
  · have:=h.bd i hi; have:=h1.bd i hi; omega
  · have h2:=h.bd i hi
    by_cases hr:dN Bs Bs[i]!<=r
    · have:=h1.at_ i hi hr; omega
    · cases hlt:cs[i]!.lt with
      | true =>
        exfalso
        apply hr
        have h0:=hb.lit i (by omega) hlt
        rw [h0,dN_zero fun j hj=>(hb.lo j hj).1]
        exact Nat.zero_le _
      | false =>
        rcases hb.via i (by omega) hlt with h3 | ⟨p,hp,hpi,h3,_⟩
        · have:=h1.bd i hi; omega
        · have h4:=hp.ok hf
          have h5:=ca_pos (e:=e) hf h4.2.1.1 h4.2.1.2
          have h6:=dN_lt (Bs:=Bs) (x:=Bs[i]!) (a:=p.1.toNat) (by omega) (by omega)
          have h7:=h1.at_ p.1.toNat (by omega) (by omega)
          obtain ⟨k,hk,hkp⟩:=mem_ats ((hM p).2 hp)
          have h8:=(h.on k (hall k hk)).2
          rw [hkp,h7,show p.2.toNat = i by omega] at h8
          have h9:B[i]!<=Bs[p.1.toNat]! + ca e (coAt cs p.2):=h8
          omega
theorem Lev.end_ {e:Int} {cs:List Co} {ts:List (Int × Int)} {Bs B:List Int} (hb:IsBeg e cs ts Bs) (h:Lev cs Bs cs.length B):B = Bs:=by
  have hbl:=hb.len
  apply List.ext_getElem (by rw [h.len,hbl])
  intro i h1 h2
  have h3:=h.at_ i (by omega) (by have:=dN_top (Bs:=Bs) (a:=i) h2; omega)
  rw [getElem!_pos B i h1,getElem!_pos Bs i h2] at h3
  exact h3
def leftN (m:Nat) (seen:List Nat):Nat:=((List.range m).filter fun k=>decide (¬ k ∈ seen)).length
theorem leftN_lt {m k:Nat} {seen:List Nat} (hk:k < m) (hn:¬ k ∈ seen):leftN m (seen ++ [k]) < leftN m seen :=
  filter_lt (fun x _ hx=>by simp at hx ⊢; exact hx.1) ⟨k,List.mem_range.2 hk,by simpa using hn,by simp⟩
theorem slot_intW {k:IntKind} {a b:Int} (h:a = b):Value.int k a = Value.int k b:=by rw [h]
theorem rangeT {H:Heap} {r:Nat} {es:List (Value × Value)} (hg:H.get r = some (.map es)):arange Try.prog H 143 (.map (some r)) = some (.pointer (some ⟨H.n,0,none⟩),H.new (.iter (some r) es.length [] es.length),H.n):=by
  simp only [arange,unTM,hg]
theorem entryT {H:Heap} {b r i:Nat} {seen:List Nat} {W:Int × Int->Int} {M:List (Int × Int)} (hb:H.get b = some (.iter (some r) (ents W M).length (seen ++ [i]) (ents W M).length)) (hr:H.get r = some (.map (ents W M))) (hi:i < M.length):aentry H (.pointer (some ⟨b,0,none⟩)) = some (.tuple #[Hv M[i]!,VJ (W M[i]!)]):=by
  have he:(ents W M)[i]? = some (Hv M[i]!,VJ (W M[i]!)):=by
    rw [List.getElem?_map,List.getElem?_eq_getElem hi,getElem!_pos M i hi]; rfl
  simp only [aentry,hb,hr,he,List.getLast?_append,List.getLast?_singleton,Option.some_or,and_self,if_true,notTuple]
theorem own_cells {e:TypeId} {H:Heap} {b n B:Nat} {vs:List Value} (h:Own e H (.slice (some ⟨b,0,none⟩) n 0) vs B):H.get b = some (.cells vs e 2)∧n = vs.length:=by
  rcases h with ⟨h,_⟩ | ⟨b',h,_,_,h4⟩
  · cases h
  · cases h; exact ⟨h4,rfl⟩
theorem map_setI {l:List Int} {i:Nat} {x:Int}:(l.map VJ).set i (VJ x) = (l.set i x).map VJ:=by rw [List.map_set]
theorem putW_ask {H:Heap} {K:Heap->Prop} {B B0:Nat} {x:Value} {y:Int} {l:List Int} {i:Nat} (hx:Own 3 H x (l.map VJ) B0) (hB:B<=B0) (hi:i < l.length) (hk:∀ H',Own 3 H' x ((l.set i y).map VJ) B0->KeepBut x H H'->K H') :
    ∃ H' b,astore Try.prog 3 H (VJ y) (elemAt x i) = some (H',b)∧B<=b∧K H' :=
  store_ask sz3 hx hB (by rw [List.length_map]; exact hi) rfl fun H' h1 h2=>hk H' (by rw [<- map_setI]; exact h1) h2
set_option maxHeartbeats 4000000 in
set_option maxRecDepth 100000 in
theorem beginning_run {Bw:Nat} {H:Heap} {cv tv:Value} {cs:List Co} {ts:List (Int × Int)} {e:Int} {Bs:List Int} (hc:RowS 7 H cv (cs.map Col)) (ht:RowS 2 H tv (ts.map Hl)) (hf:FOk cs ts) (he:e = 0 ∨ e = 1) (hb:IsBeg e cs ts Bs) :
    argsK [Fv cv tv,VJ e] 0 .leaf fun L=>XV Try.prog Bw Try.f92.ntmps H.n (Try.f92.body.getD .skip) L H fun e L' Hx=>(e = .normal ∨ e = .ret)∧resK Try.prog L' Hx Try.f92.results.toList fun rs=>∃ b,rs = [.slice (some ⟨b,0,none⟩) cs.length 0]∧H.n<=b∧Hx.get b = some (.cells (Bs.map VJ) 3 2):=by
  have hn12:=hf.n
  have hm40:=hf.m
  have hBl:=hb.len
  repeat' first | refine CO.cons rfl ?_ | refine XV.seq ?_ | refine XV.of (N:=107) (wr:=false) (sure1 _) (CV.region callees1 ?_) | fail
  refine ⟨(by simp only [notTuple]),?_⟩
  rw [allocFv hc.cells.1 ht.cells.1]
  generalize hs0:H.new _ = H0
  have hg0:=new_get hs0
  have k0:=new_keep hs0
  have n0:=new_n hs0
  obtain ⟨br,hbr⟩:∃ br,H.n = br:=⟨_,rfl⟩
  rw [hbr] at hg0 n0 ⊢
  have hc0:=hc.keep k0
  repeat' first | refine CO.cons rfl ?_ | refine CO.nil ?_ | refine XV.seq ?_ | refine XV.of (N:=107) (wr:=false) (sure1 _) (CV.region callees1 ?_) | refine ⟨_,fS foF0 (by decide),?_⟩ | refine ⟨_,cell_loadW ag25 hg0 rfl,?_⟩ | refine ⟨_,cs_len hc0,?_⟩ | fail
  refine ⟨_,_,make_row un22 one3 (by omega) cs.length (by omega),?_⟩
  generalize hs1:H0.new _ = H1
  have hg1:=new_get hs1
  have k1:=new_keep hs1
  have n1:=new_n hs1
  obtain ⟨bb,hbb⟩:∃ bb,H0.n = bb:=⟨_,rfl⟩
  rw [hbb] at hg1 n1 ⊢
  have k01:=k0.trans k1
  have hr1:H1.get br = some (.cells (Fl cv tv) 25 1):=by rw [k1.2 br (by omega)]; exact hg0
  have hc1:=hc.keep k01
  have ho1:Own 3 H1 (.slice (some ⟨bb,0,none⟩) cs.length 0) ((List.replicate cs.length (0:Int)).map VJ) bb:=.inr ⟨bb,by simp,Nat.le_refl _,by omega,by rw [hg1]; simp⟩
  obtain ⟨sv,hsv⟩:∃ sv,Value.slice (some ⟨bb,0,none⟩) cs.length 0 = sv:=⟨_,rfl⟩
  have hblk:blkOf sv = some bb:=by rw [<- hsv]; rfl
  rw [hsv] at ho1 ⊢
  repeat' first | refine CO.cons rfl ?_ | refine CO.nil ?_ | refine XV.seq ?_ | refine XV.of (N:=107) (wr:=false) (sure1 _) (CV.region callees1 ?_) | refine ⟨_,fS foF0 (by decide),?_⟩ | refine ⟨_,cell_loadW ag25 hr1 rfl,?_⟩ | refine ⟨_,cs_len hc1,?_⟩ | fail
  refine XV.of (N:=80) (wr:=false) (sure1 _) ?_
  repeat' first | refine CV.block ?_ | fail
  refine CV.loopc ?_
  refine WCv.rounds callees1 false (α:=List Int × Nat) (fun (Z,i)=>[(1,VJ e),(2,.pointer (some ⟨br,0,none⟩)),(5,sv),(16,cv),(17,VJ cs.length),(18,VJ i)]) (fun (Z,i) Hz=>i<=cs.length∧Z.length = cs.length∧(∀ j:Nat,j < i->Z[j]! = (initB cs)[j]!)∧(∀ j:Nat,i<=j->j < cs.length->Z[j]! = 0)∧Hz.get br = some (.cells (Fl cv tv) 25 1)∧Own 3 Hz sv (Z.map VJ) bb∧Keep H Hz∧bb < Hz.n) (fun (Z,i)=>cs.length - i) (List.replicate cs.length (0:Int),0) (by repeat' first | exact trivial | refine ⟨rfl,?_⟩ | refine ⟨slot_int (by (try simp only [Int.toNat_natCast]); omega),?_⟩) ?_ ?_
  · refine ⟨by omega,by simp,fun j hj=>by omega,fun j _ hj=>?_,hr1,ho1,k01,by omega⟩
    rw [getElem!_pos _ j (by simpa using hj)]; simp
  clear hr1 hc1 ho1
  rintro ⟨Z,i⟩ Hx ⟨hi,hZl,hZ1,hZ2,hrx,hox,kx,lx⟩ hBx
  have hcx:=hc.keep kx
  by_cases hi2:i < cs.length
  · repeat' first | refine CO.cons rfl ?_ | refine CO.nil ?_ | refine CV.seq ?_ | refine CV.region callees1 ?_ | refine CV.cond ?_ | refine CV.block ?_ | refine CV.skip ?_ | refine ⟨_,cs_addr hcx (by omega) (by omega),?_⟩ | refine ⟨_,cs_load hcx hi2,?_⟩ | refine ⟨_,_,al48,?_⟩ | (refine ⟨fun _=>?_,fun _=>?_⟩<;>try (exfalso; omega)) | fail
    generalize hs2:Hx.new _ = H2
    have hg2:=new_get hs2
    have k2:=new_keep hs2
    have n2:=new_n hs2
    obtain ⟨bc,hbc⟩:∃ bc,Hx.n = bc:=⟨_,rfl⟩
    rw [hbc] at hg2 n2 ⊢
    repeat' first | fail
    refine ⟨_,_,st48 hg2,by omega,?_⟩
    generalize hs3:Heap.set H2 bc _ = H3
    have hg3:H3.get bc = some (.cells (Col cs[i]!) 32 1):=set_get hs3
    have n3:=set_n hs3
    have o3:=set_old hs3
    have k3:Keep Hx H3:=keep_putW k2 (by omega) o3 n3
    have hr3:H3.get br = some (.cells (Fl cv tv) 25 1):=by rw [k3.2 br (by omega)]; exact hrx
    have ho3:=hox.keep k3
    have kx3:=kx.trans k3
    have hini:=initB_at (cs:=cs) hi2
    cases hl:cs[i]!.lt with
    | true =>
      repeat' first | refine CO.cons rfl ?_ | refine CO.nil ?_ | refine CV.seq ?_ | refine CV.region callees1 ?_ | refine CV.cond ?_ | refine CV.skip ?_ | refine ⟨(⟨by omega,by omega⟩:inI64 _),?_⟩ | refine ⟨_,fS foC3 (by decide),?_⟩ | refine ⟨_,cell_loadW ag4 hg3 (show _ = some (Value.bool true) by rw [<- hl]; rfl),?_⟩ | fail
      refine ⟨(Z,i + 1),(by repeat' first | exact trivial | refine ⟨rfl,?_⟩ | refine ⟨slot_int (by (try simp only [Int.toNat_natCast]); omega),?_⟩),(by (try dsimp only); omega),?_⟩
      refine ⟨by omega,hZl,fun j hj=>?_,fun j h1 h2=>hZ2 j (by omega) h2,hr3,ho3,kx3,by omega⟩
      by_cases hji:j = i
      · subst hji; rw [hZ2 j (by omega) hi2,hini,hl]; rfl
      · exact hZ1 j (by omega)
    | false =>
      have hI3:Ints H3 sv Z:=ho3.row
      repeat' first | refine CO.cons rfl ?_ | refine CO.nil ?_ | refine CV.seq ?_ | refine CV.region callees1 ?_ | refine CV.cond ?_ | refine ⟨_,ints_addr (by assumption) (by omega) (by omega),?_⟩ | refine ⟨_,fS foC3 (by decide),?_⟩ | refine ⟨_,cell_loadW ag4 hg3 (show _ = some (Value.bool false) by rw [<- hl]; rfl),?_⟩ | fail
      refine putW_ask ho3 (by omega) (by omega) ?_
      intro H4 ho4 kb4
      have l4:=kb4.le
      have hr4:H4.get br = some (.cells (Fl cv tv) 25 1):=by rw [kb4.get br (by omega) (by rw [hblk]; intro h; cases h; omega)]; exact hr3
      have kx4:Keep H H4:=kb4.keep kx3 fun c hc=>by rw [hblk] at hc; cases hc; omega
      rw [Int.toNat_natCast] at ho4
      repeat' first | refine CO.cons rfl ?_ | refine CO.nil ?_ | refine CV.region callees1 ?_ | refine ⟨(⟨by omega,by omega⟩:inI64 _),?_⟩ | fail
      refine ⟨(Z.set i 1000000,i + 1),(by repeat' first | exact trivial | refine ⟨rfl,?_⟩ | refine ⟨slot_int (by (try simp only [Int.toNat_natCast]); omega),?_⟩),(by (try dsimp only); omega),?_⟩
      refine ⟨by omega,by rw [List.length_set]; exact hZl,fun j hj=>?_,fun j h1 h2=>?_,hr4,ho4,kx4,by omega⟩
      · rw [getS (by omega)]
        by_cases hji:i = j
        · subst hji; rw [if_pos rfl,hini,hl]; rfl
        · rw [if_neg hji]; exact hZ1 j (by omega)
      · rw [getS (by omega),if_neg (by omega)]; exact hZ2 j (by omega) h2
  have hie:i = cs.length:=by omega
  have hZe:Z = initB cs:=by
    apply List.ext_getElem (by rw [hZl]; simp [initB])
    intro j h1 h2
    have:=hZ1 j (by omega)
    rw [getElem!_pos Z j h1,getElem!_pos (initB cs) j h2] at this
    exact this
  subst hZe
  have htx:=ht.keep kx
  repeat' first | refine CO.cons rfl ?_ | refine CO.nil ?_ | refine CV.seq ?_ | refine CV.region callees1 ?_ | refine CV.cond ?_ | refine CV.exit ?_ | (refine ⟨fun _=>?_,fun _=>?_⟩<;>try (exfalso; omega)) | fail
  repeat' first | refine CO.cons rfl ?_ | refine XV.seq ?_ | refine XV.of (N:=107) (wr:=false) (sure1 _) (CV.region callees1 ?_) | refine ⟨_,agg_load ag28 sz28 hrx (Nat.le_refl _),?_⟩ | fail
  refine (catching_spec (cs:=cs) (ts:=ts) (by omega) hcx htx hf he).mono ?_
  rintro r H5 ⟨⟨M,bm,rfl,hbm,hbm5,hgm5,hM⟩,k5⟩
  have l5:=k5.1
  have hr5:H5.get br = some (.cells (Fl cv tv) 25 1):=by rw [k5.2 br (by omega)]; exact hrx
  have ho5:=hox.keep k5
  have kx5:=kx.trans k5
  have hc5:=hc.keep kx5
  repeat' first | refine CO.cons rfl ?_ | refine CO.nil ?_ | refine XV.seq ?_ | refine XV.of (N:=107) (wr:=false) (sure1 _) (CV.region callees1 ?_) | refine ⟨_,fS foF0 (by decide),?_⟩ | refine ⟨_,cell_loadW ag25 hr5 rfl,?_⟩ | refine ⟨_,cs_len hc5,?_⟩ | fail
  refine XV.block ?_
  refine XV.rounds (α:=List Int × Nat) (fun (B1,i)=>[(5,sv),(8,.map (some bm)),(35,VJ cs.length),(36,VJ i)]) (fun (B1,i) Hz=>i<=cs.length∧Lev cs Bs i B1∧Hz.get bm = some (.map (ents (tm e cs) M))∧Own 3 Hz sv (B1.map VJ) bb∧Keep H Hz∧bm < Hz.n∧bb < Hz.n) (fun (B1,i)=>cs.length - i) (initB cs,0) (by repeat' first | exact trivial | refine ⟨rfl,?_⟩ | refine ⟨slot_intW (by (try simp only [Int.toNat_natCast]); omega),?_⟩) ?_ ?_
  · exact ⟨by omega,Lev.init hf hb,hgm5,ho5,kx5,hbm5,by omega⟩
  clear hgm5 ho5 kx5 hc5 hr5 kx hox hrx hcx htx
  rintro ⟨B1,i⟩ Hx ⟨hi,hlev,hgm,ho,kx,lm,lb⟩ hBx
  by_cases hi2:i < cs.length
  · repeat' first | refine CO.cons rfl ?_ | refine CO.nil ?_ | refine XV.seq ?_ | refine XV.cond ?_ | refine XV.of (N:=107) (wr:=false) (sure1 _) (CV.region callees1 ?_) | refine XV.of (N:=107) (wr:=false) (sure1 _) (CV.skip ?_) | (refine ⟨fun _=>?_,fun _=>?_⟩<;>try (exfalso; omega)) | fail
    refine XV.block ?_
    repeat' first | refine CO.cons rfl ?_ | refine CO.nil ?_ | refine XV.seq ?_ | refine XV.of (N:=107) (wr:=false) (sure1 _) (CV.region callees1 ?_) | (refine ⟨_,_,rangeT hgm,by (show _<=Hx.n + 1); omega,?_⟩) | fail
    generalize hs2:Hx.new _ = H2
    have hg2:=new_get hs2
    have k2:=new_keep hs2
    have n2:=new_n hs2
    obtain ⟨bi,hbi⟩:∃ bi,Hx.n = bi:=⟨_,rfl⟩
    rw [hbi] at hg2 n2 ⊢
    have hgm2:H2.get bm = some (.map (ents (tm e cs) M)):=by rw [k2.2 bm (by omega)]; exact hgm
    have ho2:=ho.keep k2
    have kx2:=kx.trans k2
    repeat' first | fail
    refine XV.block ?_
    refine XV.rounds (α:=List Nat × List Int) (fun (seen,B')=>[(5,sv),(8,.map (some bm)),(35,VJ cs.length),(36,VJ i),(39,.pointer (some ⟨bi,0,none⟩))]) (fun (seen,B') Hz=>Mid e cs Bs B1 M seen B'∧Hz.get bi = some (.iter (some bm) (ents (tm e cs) M).length seen (ents (tm e cs) M).length)∧Hz.get bm = some (.map (ents (tm e cs) M))∧Own 3 Hz sv (B'.map VJ) bb∧Keep H Hz∧bi < Hz.n) (fun (seen,B')=>leftN M.length seen) ([],B1) (by repeat' first | exact trivial | refine ⟨rfl,?_⟩ | refine ⟨slot_intW (by (try simp only [Int.toNat_natCast]); omega),?_⟩) ?_ ?_
    · exact ⟨hlev.mid,hg2,hgm2,ho2,kx2,by omega⟩
    clear hgm ho kx hg2 hgm2 ho2 kx2
    rintro ⟨seen,B'⟩ Hy ⟨hmid,hgi,hgm,hoy,ky,ly⟩ hBy
    refine XV.seq ?_
    refine XV.next rfl rfl rfl rfl rfl rfl ?_
    refine ⟨bi,bm,ents (tm e cs) M,seen,rfl,by omega,hgi,hgm,fun kv hkv=>by obtain ⟨p,_,rfl⟩:=List.mem_map.1 hkv; rfl,fun hall=>?_,fun k kv hkv hni=>?_⟩
    · repeat' first | refine CO.cons rfl ?_ | refine CO.nil ?_ | refine XV.seq ?_ | refine XV.cond ?_ | refine XV.of (N:=107) (wr:=false) (sure1 _) (CV.region callees1 ?_) | refine XV.of (N:=107) (wr:=false) (sure1 _) (CV.exit ?_) | refine ⟨(⟨by omega,by omega⟩:inI64 _),?_⟩ | fail
      refine ⟨(B',i + 1),(by repeat' first | exact trivial | refine ⟨rfl,?_⟩ | refine ⟨slot_int (by (try simp only [Int.toNat_natCast]); omega),?_⟩),(by (try dsimp only); omega),?_⟩
      exact ⟨by omega,hmid.end_ hf hb hM hlev (fun k hk=>hall k (by simpa using hk)),hgm,hoy,ky,by omega,by omega⟩
    · have hk:k < M.length:=by
        have:=(List.getElem?_eq_some_iff.1 hkv).1
        simpa using this
      obtain ⟨w,hw⟩:∃ w,M[k]! = w:=⟨_,rfl⟩
      have hwM:w ∈ M:=by rw [<- hw,getElem!_pos M k hk]; exact List.getElem_mem hk
      have harc:=(hM w).1 hwM
      have hwb:=harc.ok hf
      have hcw:1<=tm e cs w∧tm e cs w<=300:=ca_pos (e:=e) hf hwb.2.1.1 hwb.2.1.2
      have hml:=hmid.len
      have hA:=hmid.bd w.1.toNat (by omega)
      have hA1:=hlev.bd w.1.toNat (by omega)
      have hA0:=hb.lo w.1.toNat (by omega)
      generalize hs3:Heap.set Hy bi _ = H3
      have hg3:H3.get bi = some (.iter (some bm) (ents (tm e cs) M).length (seen ++ [k]) (ents (tm e cs) M).length):=set_get hs3
      have n3:=set_n hs3
      have o3:=set_old hs3
      have hgm3:H3.get bm = some (.map (ents (tm e cs) M)):=by rw [o3 bm (by omega)]; exact hgm
      have ho3:Own 3 H3 sv (B'.map VJ) bb:=by
        rcases hoy with h | ⟨b',h1,h2,h3,h4⟩
        · exact .inl h
        · refine .inr ⟨b',h1,h2,by omega,?_⟩
          have:b' = bb:=by
            rw [<- hsv] at h1
            simp only [Value.slice.injEq,Option.some.injEq,Addr.mk.injEq,and_true] at h1
            exact h1.1.symm
          rw [o3 b' (by omega)]; exact h4
      have ky3:Keep H H3:=keep_putW ky (by omega) o3 n3
      have hent:=entryT hg3 hgm3 hk
      rw [hw] at hent
      repeat' first | refine XV.seq ?_ | refine XV.cond ?_ | refine XV.of (N:=107) (wr:=false) (sure1 _) (CV.skip ?_) | fail
      refine XV.block ?_
      repeat' first | refine CO.cons rfl ?_ | refine XV.seq ?_ | refine XV.of (N:=107) (wr:=false) (sure1 _) (CV.region callees1 ?_) | refine ⟨_,hent,?_⟩ | refine ⟨_,_,al82,?_⟩ | fail
      generalize hs4:H3.new _ = H4
      have hg4:=new_get hs4
      have k4:=new_keep hs4
      have n4:=new_n hs4
      obtain ⟨bw,hbw⟩:∃ bw,H3.n = bw:=⟨_,rfl⟩
      rw [hbw] at hg4 n4 ⊢
      repeat' first | fail
      refine ⟨_,_,st82 hg4,by omega,?_⟩
      generalize hs5:Heap.set H4 bw _ = H5
      have hg5:H5.get bw = some (.cells (Hl w) 99 1):=set_get hs5
      have n5:=set_n hs5
      have o5:=set_old hs5
      have k5:Keep H3 H5:=keep_putW k4 (by omega) o5 n5
      have ho5:=ho3.keep k5
      have hI5:Ints H5 sv B':=ho5.row
      repeat' first | refine CO.cons rfl ?_ | refine CO.nil ?_ | refine XV.of (N:=107) (wr:=false) (sure1 _) (CV.draw callees1 (by decide +kernel) ?_) | refine CH.cons rfl ?_ | refine CH.nil ?_ | refine ⟨_,ints_addr (by assumption) (by omega) (by omega),?_⟩ | refine ⟨_,ints_load (by assumption) (by omega) (by omega),?_⟩ | refine ⟨(⟨by omega,by omega⟩:inI64 _),?_⟩ | refine ⟨_,fun tm ha=>step1_min rfl (ev_tmp ha rfl) (ev_tmp ha rfl),?_⟩ | refine ⟨_,fS foT0 (by decide),?_⟩ | refine ⟨_,fS foT1 (by decide),?_⟩ | refine ⟨_,cell_loadW ag3 hg5 rfl,?_⟩ | fail
      refine putW_ask ho5 (by omega) (by omega) ?_
      intro H6 ho6 kb6
      have l6:=kb6.le
      have hgm6:H6.get bm = some (.map (ents (tm e cs) M)):=by rw [kb6.get bm (by omega) (by rw [hblk]; intro h; cases h; omega),k5.2 bm (by omega)]; exact hgm3
      have hgi6:H6.get bi = some (.iter (some bm) (ents (tm e cs) M).length (seen ++ [k]) (ents (tm e cs) M).length):=by rw [kb6.get bi (by omega) (by rw [hblk]; intro h; cases h; omega),k5.2 bi (by omega)]; exact hg3
      have ky6:Keep H H6:=kb6.keep (ky3.trans k5) fun c hc=>by rw [hblk] at hc; cases hc; omega
      repeat' first | refine CO.nil ?_ | refine CH.nil ?_ | fail
      refine ⟨(seen ++ [k],_),(by repeat' first | exact trivial | refine ⟨rfl,?_⟩),leftN_lt hk hni,hmid.step hf hb harc hk hw,hgi6,hgm6,ho6,ky6,by omega⟩
  have hie:i = cs.length:=by omega
  subst hie
  have:=hlev.end_ hb
  subst this
  obtain ⟨hcell,_⟩:=own_cells (hsv ▸ ho)
  repeat' first | refine CO.cons rfl ?_ | refine CO.nil ?_ | refine XV.seq ?_ | refine XV.cond ?_ | refine XV.of (N:=107) (wr:=false) (sure1 _) (CV.region callees1 ?_) | refine XV.of (N:=107) (wr:=false) (sure1 _) (CV.exit ?_) | refine XV.of (N:=107) (wr:=false) (sure1 _) (CV.ret ?_) | (refine ⟨fun _=>?_,fun _=>?_⟩<;>try (exfalso; omega)) | fail
  refine ⟨.inr rfl,bb,?_,by omega,hcell⟩
  rw [hsv]
def BegOf (l:List Value) (H:Heap) (B:List Int):Prop:=∃ cv tv e cs ts,l = [Fv cv tv,VJ e]∧RowS 7 H cv (cs.map Col)∧RowS 2 H tv (ts.map Hl)∧FOk cs ts∧(e = 0 ∨ e = 1)∧IsBeg e cs ts B
theorem begOf_one {l:List Value} {H:Heap} {B B':List Int} (h:BegOf l H B) (h':BegOf l H B'):B = B':=by
  obtain ⟨cv,tv,e,cs,ts,rfl,h1,h2,h3,h4,h5⟩:=h
  obtain ⟨cv',tv',e',cs',ts',hl,g1,g2,g3,g4,g5⟩:=h'
  simp only [List.cons.injEq,and_true,Value.agg.injEq,Value.int.injEq,true_and] at hl
  obtain ⟨ha,rfl⟩:=hl
  have ha:=congrArg Array.toList ha
  simp only [List.cons.injEq,and_true] at ha
  obtain ⟨rfl,rfl⟩:=ha
  have e1:=map_inj (fun _ _=>Col_inj) (h1.inj (by omega) g1)
  have e2:=map_inj (fun _ _=>Hl_inj) (h2.inj (by omega) g2)
  subst e1; subst e2
  exact h5.one h3 g5
open Classical in
noncomputable def wildB (l:List Value) (H:Heap):Option Res :=
  if h:∃ B,BegOf l H B then some (.slice (some ⟨H.n,0,none⟩) (Classical.choose h).length 0,H.new (.cells ((Classical.choose h).map VJ) 3 2),H.n) else none
theorem wildB_is {l:List Value} {H:Heap} {B:List Int} (h:BegOf l H B):wildB l H = some (.slice (some ⟨H.n,0,none⟩) B.length 0,H.new (.cells (B.map VJ) 3 2),H.n):=by
  have hx:∃ B,BegOf l H B:=⟨B,h⟩
  have:=begOf_one (Classical.choose_spec hx) h
  unfold wildB
  rw [dif_pos hx,this]
theorem begin_calls {Bw:Nat} {l:List Value} {H:Heap} {B:List Int} (h:BegOf l H B) {ρ:Ren} {w:World} {args:Array Value} (k:Nat) (hH:HR Try.prog Bw ρ H w) (ha:L2 (VT ρ) l args.toList) :
    CallsIn Fence.wide k Try.prog 92 args w (fun e w'=>∃ ρ' v',e = .returned v'∧VT ρ' (.slice (some ⟨H.n,0,none⟩) B.length 0) v'∧HR Try.prog Bw ρ' (H.new (.cells (B.map VJ) 3 2)) w'∧Ext Bw ρ ρ' H.n w w'):=by
  obtain ⟨cv,tv,e,cs,ts,rfl,h1,h2,h3,h4,h5⟩:=h
  refine wild_row (sure1 Bw) (fn:=Try.f92) (c:=Try.f92.body.getD .skip) Try.func92 rfl (by kernel_rfl) (Nat.le_of_ble_eq_true rfl) ?_ ?_ k hH ha
  · exact List.all_eq_true.2 fun x hx=>by obtain ⟨y,_,rfl⟩:=List.mem_map.1 hx; rfl
  · rw [h5.len]
    exact beginning_run h1 h2 h3 h4 h5
end Go.Proofs.Ytglkphjjinmgmaa
namespace Go.AI
theorem CallB.wild {P:Program} [Oracle P] {B:Nat} {f:FuncId} {l:List Value} {H H':Heap} {v:Value} {lo:Nat} {Q:Value->Heap->Prop} (hv:Oracle.val P f = none) (hw:Oracle.wild P f = true) (h:Oracle.wildF P f l H = some (v,H',lo)) (hB:B<=lo∧B<=H'.n) (hq:Q v H'):CallB P B f l H Q:=by
  refine ⟨⟨1,v,H',lo,?_,hB,hq⟩⟩
  rw [call]
  unfold oracle
  simp only [hv,hw,cond_true,h]
end Go.AI
namespace Go.Proofs.Ytglkphjjinmgmaa
open Go.AI
noncomputable instance oracle2:Oracle Try.prog:=⟨fun _=>none,fun _=>True,[],rfl,fun _=>instDecidableTrue,fun f=>Nat.beq f 92,fun f l H=>bif Nat.beq f 92 then wildB l H else none⟩
theorem ok2 (B:Nat):OracleOK Try.prog B:=fun f v hv=>by cases hv
theorem wild2 (B:Nat):WildOK Try.prog B:=by
  intro f l H v H' lo hw h ρ w args k hH ha
  have hw:Nat.beq f 92 = true:=hw
  have hf:=Nat.eq_of_beq_eq_true hw
  subst hf
  have h:wildB l H = some (v,H',lo):=h
  by_cases hx:∃ B,BegOf l H B
  · obtain ⟨Bs,hb⟩:=hx
    rw [wildB_is hb] at h
    cases h
    exact begin_calls hb k hH ha
  · unfold wildB at h
    rw [dif_neg hx] at h
    cases h
theorem callees:calleesOk Try.prog 107 = true:=by kernel_rfl
abbrev VI:Int->Value:=Value.int .i64
theorem fo74:fieldOff Try.prog 95 0 = some (0,1):=by kernel_rfl
theorem sz72:sizeB Try.prog 93 = some 1:=by kernel_rfl
theorem ag72:isAggB Try.prog 93 = some false:=by kernel_rfl
theorem un72:Try.prog.underlying 93 = some (.int .u64):=by kernel_rfl
def Box (b:Nat) (H:Heap):Prop:=b < H.n∧∃ w,H.get b = some (.cells [.int .u64 w] 95 1)
def bp (b:Nat):Value:=.pointer (some ⟨b,0,none⟩)
theorem box_addr {b:Nat}:afieldAddr Try.prog 95 (bp b) 0 = some (bp b):=field_addr fo74 (by decide)
theorem box_load {b:Nat} {H:Heap} {w:Int} (h:H.get b = some (.cells [.int .u64 w] 95 1)):aload Try.prog 93 H (bp b) = some (.int .u64 w):=by
  simp only [aload,bp,h,ag72]; rfl
theorem box_store {b:Nat} {H:Heap} {w r:Int} (h:H.get b = some (.cells [.int .u64 w] 95 1)):astore Try.prog 93 H (.int .u64 r) (bp b) = some (H.set b (.cells [.int .u64 r] 95 1),b):=by
  simp only [astore,bp,h,sz72,Value.cells]; rfl
theorem Box.keepX {b:Nat} {H:Heap} {r:Int} (h:Box b H):Box b (H.set b (.cells [.int .u64 r] 95 1)):=⟨h.1,r,Heap.get_set_eq _ _ _⟩
theorem Box.keep {b:Nat} {H H':Heap} (h:Box b H) (k:Keep H H'):Box b H':=⟨Nat.lt_of_lt_of_le h.1 k.1,by obtain ⟨w,hw⟩:=h.2; exact ⟨w,by rw [k.2 b h.1]; exact hw⟩⟩
theorem KeepX.set {b:Nat} (H:Heap) (o:AObj):KeepX b H (H.set b o):=⟨Nat.le_refl _,fun c _ hc=>Heap.get_set_ne _ _ (fun h=>hc h.symm)⟩
theorem wrap64 (n:Int):0<=IntKind.wrap .u64 n∧IntKind.wrap .u64 n < 18446744073709551616:=by
  simp only [IntKind.wrap,IntKind.signed,IntKind.bits]
  simp
  omega
theorem wrapI {n:Int} (h0:-9223372036854775808<=n) (h1:n < 9223372036854775808):IntKind.wrap .i64 n = n:=by
  simp only [IntKind.wrap,IntKind.signed,IntKind.bits]
  simp
  split<;>omega
theorem wrapU {n:Int} (h0:0<=n) (h1:n < 18446744073709551616):IntKind.wrap .u64 n = n:=by
  simp only [IntKind.wrap,IntKind.signed,IntKind.bits]
  simp
  omega
theorem fdiv64 {x:Int} (h0:0<=x) (h1:x < 18446744073709551616):0<=x.fdiv (2 ^ (min (Int.toNat 1) (IntKind.bits .u64)))∧x.fdiv (2 ^ (min (Int.toNat 1) (IntKind.bits .u64))) < 9223372036854775808:=by
  rw [show (2 ^ (min (Int.toNat 1) (IntKind.bits .u64)):Int) = 2 by decide,Int.fdiv_eq_ediv_of_nonneg _ (by omega)]
  omega
set_option maxRecDepth 100000 in
theorem turn_spec {B b:Nat} {H:Heap} (hB:B<=b) (hn:B<=H.n) (hb:Box b H) :
    CallB Try.prog B 65 [bp b] H (fun r H'=>(∃ x,r = .int .u64 x∧0<=x∧x < 18446744073709551616)∧Box b H'∧KeepX b H H'):=by
  refine CV.enter callees true rfl Try.func65 rfl (by kernel_rfl) (Nat.le_of_ble_eq_true rfl) hn ?_
  have hb':=hb
  obtain ⟨hbn,w,hw⟩:=hb
  have hw2:∀ r,(H.set b (.cells [.int .u64 r] 95 1)).get b = some (.cells [.int .u64 r] 95 1):=fun r=>Heap.get_set_eq _ _ _
  repeat' first | refine CO.cons rfl ?_ | refine CO.nil ?_ | refine CV.seq ?_ | refine CV.region callees ?_ | refine CV.ret ?_ | refine ⟨_,box_addr,?_⟩ | refine ⟨_,box_load hw,?_⟩ | refine ⟨_,box_load (hw2 _),?_⟩ | refine ⟨_,_,box_store hw,hB,?_⟩ | intro _ _ | refine ⟨_,fun tm ha=>step1_shr rfl (ev_tmp ha rfl) rfl (by decide),?_⟩ | refine ⟨_,fun tm ha=>step1_bits (.inl rfl) rfl (ev_tmp ha rfl) (ev_tmp ha rfl) rfl rfl,?_⟩ | fail
  refine ⟨rfl,⟨_,rfl,(wrap64 _).1,(wrap64 _).2⟩,hb'.keepX,KeepX.set _ _⟩
set_option maxRecDepth 100000 in
theorem up_spec {B b:Nat} {H:Heap} {n:Int} (hB:B<=b) (hn:B<=H.n) (hb:Box b H) (hn1:n < 9223372036854775808) :
    CallB Try.prog B 19 [bp b,.int .i64 n] H (fun r H'=>(∃ x,r = .int .i64 x∧0<=x∧(x < n ∨ x = 0))∧Box b H'∧KeepX b H H'):=by
  refine CV.enter callees true rfl Try.func19 rfl (by kernel_rfl) (Nat.le_of_ble_eq_true rfl) hn ?_
  repeat' first | refine CO.cons rfl ?_ | refine CO.nil ?_ | refine CV.seq ?_ | refine CV.region callees ?_ | refine CV.cond ?_ | refine CV.skip ?_ | refine CV.ret ?_ | refine ⟨fun _=>?_,fun _=>?_⟩ | fail
  · exact ⟨rfl,⟨0,rfl,by omega,.inr rfl⟩,hb,KeepX.refl _ _⟩
  refine (turn_spec hB hn hb).mono ?_
  rintro r H' ⟨⟨x,rfl,h0,h1⟩,hb',hk⟩
  have hm:IntKind.wrap .u64 n = n:=wrapU (by omega) (by omega)
  obtain ⟨d0,d1⟩:=fdiv64 h0 h1
  repeat' first | refine CO.cons rfl ?_ | refine CO.nil ?_ | refine CV.ret ?_ | refine ⟨_,fun tm ha=>step1_shr rfl (ev_tmp ha rfl) rfl (by decide),?_⟩ | refine ⟨_,fun tm ha=>step1_conv un3 un72 rfl (ev_tmp ha rfl),?_⟩ | refine ⟨_,fun tm ha=>step1_rem rfl (ev_tmp ha rfl) (ev_tmp ha rfl) (by rw [hm]; omega),?_⟩ | refine ⟨_,fun tm ha=>step1_conv un72 un3 rfl (ev_tmp ha rfl),?_⟩ | fail
  rw [hm]
  generalize x.fdiv (2 ^ (min (Int.toNat 1) (IntKind.bits .u64))) = d at d0 d1
  have e1:=Int.tmod_nonneg (b:=n) d0
  have e2:=Int.tmod_lt_of_pos d (b:=n) (by omega)
  rw [wrapI (by omega) (by omega)]
  exact ⟨rfl,⟨_,rfl,e1,.inl e2⟩,hb',hk⟩
set_option maxRecDepth 100000 in
theorem any_spec {B b:Nat} {H:Heap} {l h:Int} (hB:B<=b) (hn:B<=H.n) (hb:Box b H) (h0:-1000000<=l) (h1:l<=h) (h2:h < 1000000) :
    CallB Try.prog B 58 [bp b,.int .i64 l,.int .i64 h] H (fun r H'=>(∃ x,r = .int .i64 x∧l<=x∧x<=h)∧Box b H'∧KeepX b H H'):=by
  refine CV.enter callees false rfl Try.func58 rfl (by kernel_rfl) (Nat.le_of_ble_eq_true rfl) hn ?_
  repeat' first | refine CO.cons rfl ?_ | refine CO.nil ?_ | refine CV.seq ?_ | refine CV.region callees ?_ | refine ⟨(⟨by omega,by omega⟩:inI64 _),?_⟩ | fail
  refine (up_spec hB hn hb (by omega)).mono ?_
  rintro r H' ⟨⟨x,rfl,h3,h4⟩,hb',hk⟩
  repeat' first | refine CO.cons rfl ?_ | refine CO.nil ?_ | refine CV.ret ?_ | refine ⟨(⟨by omega,by omega⟩:inI64 _),?_⟩ | fail
  exact ⟨rfl,⟨_,rfl,by omega,by omega⟩,hb',hk⟩
set_option maxRecDepth 100000 in
theorem one_spec {B b:Nat} {H:Heap} {n:Int} (hB:B<=b) (hn:B<=H.n) (hb:Box b H) (hn1:n < 9223372036854775808) :
    CallB Try.prog B 18 [bp b,.int .i64 n] H (fun r H'=>(∃ x,r = .bool x)∧Box b H'∧KeepX b H H'):=by
  refine CV.enter callees false rfl Try.func18 rfl (by kernel_rfl) (Nat.le_of_ble_eq_true rfl) hn ?_
  repeat' first | refine CO.cons rfl ?_ | refine CO.nil ?_ | refine CV.seq ?_ | refine CV.region callees ?_ | fail
  refine (up_spec hB hn hb hn1).mono ?_
  rintro r H' ⟨⟨x,rfl,h3,h4⟩,hb',hk⟩
  repeat' first | refine CO.cons rfl ?_ | refine CO.nil ?_ | refine CV.ret ?_ | refine ⟨fun _=>?_,fun _=>?_⟩ | fail
  · exact ⟨rfl,⟨_,rfl⟩,hb',hk⟩
  · exact ⟨rfl,⟨_,rfl⟩,hb',hk⟩
theorem build_box {w:Int}:abuild Try.prog 95 [(0,.int .u64 w)] = some (.agg #[.int .u64 w]):=by kernel_rfl
set_option maxRecDepth 100000 in
theorem boxOf_spec {B:Nat} {H:Heap} {v:Value} {xs:List Int} (hn:B<=H.n) (hv:Ints H v xs) (hl:xs.length<=9223372036854775807) :
    CallB Try.prog B 15 [v] H (fun r H'=>(∃ b,r = bp b∧H.n<=b∧Box b H')∧Keep H H'):=by
  refine CV.enter callees false rfl Try.func15 rfl (by kernel_rfl) (Nat.le_of_ble_eq_true rfl) hn ?_
  repeat' first | refine CO.cons rfl ?_ | refine CO.nil ?_ | refine CV.seq ?_ | refine CV.region callees ?_ | refine CV.block ?_ | refine ⟨_,build_box,?_⟩ | refine ⟨(rfl:notTuple _ = true),?_⟩ | fail
  refine CV.loopc ?_
  refine WCv.rounds callees false (α:=Int) (fun a=>[(0,v),(3,bp H.n),(4,.int .i64 a)]) (fun a Hz=>0<=a∧a<=xs.length∧Box H.n Hz∧Keep H Hz) (fun a=>xs.length - a.toNat) (0) (by repeat' first | exact trivial | refine ⟨rfl,?_⟩) ?_ ?_
  · exact ⟨by omega,by omega,⟨Nat.lt_succ_self _,_,Heap.get_new_eq _ _⟩,Keep.new _ _⟩
  rintro i Hx ⟨h0,h1,hb,hk⟩ hBx
  have hvx:Ints Hx v xs:=hv.keep hk
  have hb':=hb
  obtain ⟨hbn,w,hw⟩:=hb
  repeat' first | refine CO.cons rfl ?_ | refine CO.nil ?_ | refine CV.seq ?_ | refine CV.region callees ?_ | refine CV.cond ?_ | refine CV.block ?_ | refine CV.skip ?_ | refine CV.exit ?_ | refine CV.ret ?_ | refine CV.draw callees (by decide +kernel) ?_ | refine CH.cons rfl ?_ | refine CH.nil ?_ | refine ⟨_,ints_len (by assumption),?_⟩ | refine ⟨_,ints_addr (by assumption) (by omega) (by omega),?_⟩ | refine ⟨_,ints_load (by assumption) (by omega) (by omega),?_⟩ | refine ⟨_,box_addr,?_⟩ | refine ⟨_,box_load hw,?_⟩ | refine ⟨_,_,box_store hw,hn,?_⟩ | intro _ _ | refine ⟨_,fun tm ha=>step1_conv un3 un72 rfl (ev_tmp ha rfl),?_⟩ | refine ⟨_,fun tm ha=>step1_bits (.inl rfl) rfl (ev_tmp ha rfl) (ev_tmp ha rfl) rfl rfl,?_⟩ | (refine ⟨fun _=>?_,fun _=>?_⟩<;>try (exfalso; omega)) | fail
  · refine (turn_spec hn (by exact hBx) hb'.keepX).mono ?_
    rintro r H' ⟨⟨x,rfl,_,_⟩,hb2,hk2⟩
    repeat' first | refine CO.cons rfl ?_ | refine CO.nil ?_ | refine CV.region callees ?_ | refine ⟨(⟨by omega,by omega⟩:inI64 _),?_⟩ | fail
    refine ⟨(i + 1),(by repeat' first | exact trivial | refine ⟨rfl,?_⟩),(by (try dsimp only); omega),?_⟩
    exact ⟨by omega,by omega,hb2,((KeepX.set _ _).trans hk2).keep hk (Nat.le_refl _)⟩
  · repeat' first | fail
    exact ⟨rfl,⟨_,rfl,Nat.le_refl _,hb'⟩,hk⟩
theorem Box.keepBut {b:Nat} {x:Value} {H H':Heap} (h:Box b H) (k:KeepBut x H H') (hx:blkOf x ≠ some b):Box b H' :=
  ⟨Nat.lt_of_lt_of_le h.1 k.le,by obtain ⟨w,hw⟩:=h.2; exact ⟨w,by rw [k.get b h.1 hx]; exact hw⟩⟩
theorem row_box {H H':Heap} {b:Nat} {v:Value} {vs:List Value} (h:Row H v vs) (k:KeepX b H H') (hb:Box b H):Row H' v vs:=by
  obtain ⟨w,hw⟩:=hb.2; exact h.keepX k hw
theorem push_ask {H:Heap} {K:Value->Heap->Prop} {B B0:Nat} {x:Value} {y:Int} {l:List Int} (hx:Own 3 H x (l.map VI) B0) (hB0:B0<=H.n) (hB:B<=B0) (hn:l.length < 1000000)
    (hk:∀ r H',Own 3 H' r ((l ++ [y]).map VI) B0->KeepBut x H H'->(∀ c,blkOf r = some c->H.n<=c)->K r H') :
    ∃ v H' b,aappend Try.prog (H.new (.cells [.int .i64 y] 3 2)) #[33,33] x (.slice (some ⟨H.n,0,none⟩) 1 0) = some (v,H',b)∧B<=b∧K v H' :=
  append_ask un22 one3 (by omega) hx hB0 hB (by simpa using hn) fun r H' h=>hk r H' (by simpa using h)
theorem put_ask {H:Heap} {K:Heap->Prop} {B B0:Nat} {x:Value} {y:Int} {l:List Int} {i:Nat} (hx:Own 3 H x (l.map VI) B0) (hB:B<=B0) (hi:i < l.length)
    (hk:∀ H',Own 3 H' x ((l.set i y).map VI) B0->KeepBut x H H'->K H') :
    ∃ H' b,astore Try.prog 3 H (.int .i64 y) (elemAt x i) = some (H',b)∧B<=b∧K H' :=
  store_ask sz3 hx hB (by simpa using hi) rfl fun H' h=>hk H' (by rw [List.map_set]; exact h)
end Go.Proofs.Ytglkphjjinmgmaa
namespace Go.AI
open Go.Proofs.Ytglkphjjinmgmaa
theorem slot_int {k:IntKind} {a b:Int} (h:a = b):Value.int k a = Value.int k b:=by rw [h]
end Go.AI
namespace Go.AI
def zeroCells (P:Program) (t:TypeId):Option (List Value) :=
  match (P.info? t).bind (·.zero) with
  | some z=>bif z.cells.toList.all scalar then some z.cells.toList else none
  | none=>none
theorem alloc_of {P:Program} {H:Heap} {t:TypeId} {l:List Value} (h:zeroCells P t = some l):sAlloc P H t = some (.pointer (some ⟨H.n,0,none⟩),H.new (.cells l t 1),H.n):=by
  unfold zeroCells at h
  unfold sAlloc
  split at h
  · rename_i z hz
    rw [hz]
    cases hc:z.cells.toList.all scalar with
    | true =>
      rw [hc] at h
      cases h
      simp only [hc,if_true]
      rfl
    | false=>rw [hc] at h; cases h
  · cases h
theorem splice_all:∀ (vs cs:List Value) (i:Nat),i + vs.length<=cs.length->splice cs i vs = cs.take i ++ vs ++ cs.drop (i + vs.length)
  | [],cs,i,_=>by simp [splice]
  | v :: vs,cs,i,h=>by
    simp only [List.length_cons] at h
    rw [splice,splice_all vs (cs.set i v) (i + 1) (by rw [List.length_set]; omega)]
    have h1:(cs.set i v).take (i + 1) = cs.take i ++ [v]:=by
      apply List.ext_getElem
      · simp; omega
      · intro j h1 h2
        simp only [List.length_take,List.length_set] at h1
        rw [List.getElem_take,List.getElem_set,List.getElem_append]
        by_cases hj:j < i
        · rw [if_neg (by omega),dif_pos (by simp; omega),List.getElem_take]
        · have:j = i:=by omega
          subst this
          rw [if_pos rfl,dif_neg (by rw [List.length_take]; omega)]
          simp
    rw [h1,List.drop_set_of_lt (by omega)]
    simp [Nat.add_assoc,Nat.add_comm 1]
theorem store_all {P:Program} {H:Heap} {t e:TypeId} {b k:Nat} {cs vs:List Value} (hb:H.get b = some (.cells cs e (k + 1))) (hl:cs.length = vs.length) (hs:sizeB P t = some vs.length) (ho:vs.all oneC = true) :
    astore P t H (.agg vs.toArray) (.pointer (some ⟨b,0,none⟩)) = some (H.set b (.cells vs e (k + 1)),b):=by
  have h1:(Value.agg vs.toArray).cells = vs.toArray:=rfl
  simp only [astore,hb,h1,hs,spliceQ_eq]
  rw [if_pos ⟨by simp,by simp; omega,rfl,by simpa using ho⟩,splice_all _ _ _ (by simp; omega)]
  simp only [List.take_zero,List.nil_append,Nat.zero_add]
  rw [List.drop_eq_nil_of_le (by omega),List.append_nil]
theorem array_addr {P:Program} {t e:TypeId} {len s:Nat} (ht:P.underlying t = some (.array len e)) (hs:sizeB P e = some s) {b i:Nat} {k:Int} {kd:IntKind} (h0:0<=k) (h1:k < len) :
    aindexAddr P t (.pointer (some ⟨b,i,none⟩)) (.int kd k) = some (.pointer (some ⟨b,i + k.toNat * s,none⟩)):=by
  simp [aindexAddr,asIdx,ht,hs,h0,h1]
end Go.AI
namespace Go.Proofs.Ytglkphjjinmgmaa
open Go.AI
theorem cell_load {H:Heap} {b i:Nat} {cs:List Value} {e t:TypeId} {k:Nat} {x:Value} (ha:isAggB Try.prog t = some false) (hg:H.get b = some (.cells cs e k)) (hx:cs[i]? = some x):aload Try.prog t H (.pointer (some ⟨b,i,none⟩)) = some x:=by
  simp [aload,hg,ha,hx]
theorem ag22:isAggB Try.prog 33 = some false:=by kernel_rfl
def ptsOk (a c w n l:Int):Prop:=(0<=a∧a<=1000)∧(0<=c∧c<=1000)∧(0<=w∧w<=1000)∧(0<=n∧n<=1000)∧0<=l∧l<=1000
instance (a c w n l:Int):Decidable (ptsOk a c w n l):=by unfold ptsOk; infer_instance
end Go.Proofs.Ytglkphjjinmgmaa
namespace Go.AI
end Go.AI
namespace Go.Proofs.Ytglkphjjinmgmaa
open Go.AI
theorem keep_put {H H1 H2:Heap} {b:Nat} (k:Keep H H1) (hb:H.n<=b) (ho:∀ c,c ≠ b->H2.get c = H1.get c) (hn:H2.n = H1.n):Keep H H2 :=
  ⟨by rw [hn]; exact k.1,fun c hc=>by rw [ho c (by omega)]; exact k.2 c hc⟩
end Go.Proofs.Ytglkphjjinmgmaa
namespace Go.AI
section
variable {P:Program} {H:Heap} {t e:TypeId} {z:Value} {by':Nat}
end
end Go.AI
namespace Go.Proofs.Ytglkphjjinmgmaa
open Go.AI
variable {ts ws us:List Int}
end Go.Proofs.Ytglkphjjinmgmaa
namespace Go.AI
theorem flat_put {s:Nat} {row:List Value}:∀ {rs:List (List Value)} {j:Nat},(∀ r ∈ rs,r.length = s)->j < rs.length->rs.flatten.take (j * s) ++ row ++ rs.flatten.drop (j * s + s) = (rs.set j row).flatten
  | r :: rs,0,h,_=>by
    have hr:=h r (by simp)
    subst hr
    simp
  | r :: rs,j + 1,h,hj=>by
    have hr:=h r (by simp)
    subst hr
    have ih:=flat_put (row:=row) (rs:=rs) (j:=j) (fun q hq=>h q (by simp [hq])) (by simpa using hj)
    rw [List.set_cons_succ,List.flatten_cons,List.flatten_cons,<- ih]
    have e1:(j + 1) * r.length = r.length + j * r.length:=by rw [Nat.succ_mul]; omega
    have e2:(j + 1) * r.length + r.length = r.length + (j * r.length + r.length):=by rw [Nat.succ_mul]; omega
    rw [e2,e1,List.take_length_add_append,List.drop_length_add_append]
    simp [List.append_assoc]
theorem rstore_askS {P:Program} {H:Heap} {e ft:TypeId} {K:Heap->Prop} {B B0 s:Nat} {x:Value} {row:List Value} {rs:List (List Value)} {j:Nat} (hs:sizeB P ft = some s) (hx:OwnS e s H x rs B0) (hB:B<=B0) (hj:j < rs.length) (hr:row.length = s) (hw:row.all oneC = true)
    (hk:∀ H',OwnS e s H' x (rs.set j row) B0->KeepBut x H H'->K H') :
    ∃ H' b,astore P ft H (.agg row.toArray) (elemS x s j) = some (H',b)∧B<=b∧K H':=by
  rcases hx.2 with ⟨rfl,rfl⟩ | ⟨b0,rfl,h2,h3,h4⟩
  · simp at hj
  · have hm:(j + 1) * s<=rs.length * s:=Nat.mul_le_mul_right _ hj
    rw [Nat.succ_mul] at hm
    have hst:astore P ft H (.agg row.toArray) (elemS (.slice (some ⟨b0,0,none⟩) rs.length 0) s j) = some (H.set b0 (.cells (rs.set j row).flatten e 2),b0):=by
      have h1:(Value.agg row.toArray).cells = row.toArray:=rfl
      simp only [astore,elemS,h4,h1,hs,spliceQ_eq,Nat.zero_add]
      rw [if_pos ⟨by simp [hr],by rw [flat_len hx.1]; simp [hr]; omega,rfl,by simpa using hw⟩,splice_all _ _ _ (by rw [flat_len hx.1,hr]; omega),hr,flat_put hx.1 hj]
    refine ⟨_,_,hst,Nat.le_trans hB h2,hk _ ⟨fun q hq=>?_,.inr ⟨b0,by simp,h2,h3,by rw [Heap.get_set_eq]⟩⟩ ⟨Nat.le_refl _,fun c hc hne=>Heap.get_set_ne _ _ fun h=>hne (by rw [h]; rfl)⟩⟩
    rcases List.mem_or_eq_of_mem_set hq with h | h
    · exact hx.1 q h
    · rw [h]; exact hr
end Go.AI
namespace Go.AI
theorem zeros_rep (z:List Value) (hz:0 < z.length):∀ n,zeros z.toArray (n * z.length) = (List.replicate n z).flatten
  | 0=>by simp [zeros]
  | n + 1=>by
    rw [List.replicate_succ',List.flatten_append,<- zeros_rep z hz n,Nat.succ_mul]
    unfold zeros
    rw [List.range_add,List.map_append]
    congr 1
    apply List.ext_getElem
    · simp
    · intro i h1 h2
      have hi:i < z.length:=by simpa using h2
      simp [Nat.mul_add_mod_self_right,Nat.mod_eq_of_lt hi,hi]
theorem make_rows {P:Program} {H:Heap} {t e:TypeId} {z:List Value} {by':Nat} (ht:P.underlying t = some (.slice e)) (h1:zeroBB P e = some (z,by')) (hb:by'<=1000) (n:Nat) (hn:n<=1000000) :
    amakeSlice P H t (.int .i64 n) (.int .i64 n) = some (.slice (some ⟨H.n,0,none⟩) n 0,H.new (.cells (List.replicate n z).flatten e 2),H.n):=by
  obtain ⟨info,zv,hi,hz,hs,h0,hc,hsc,hby⟩:=zeroBB_spec h1
  have hmul:info.bytes * n<=1000 * 1000000:=Nat.mul_le_mul (by omega) hn
  simp only [amakeSlice,ht,hi,hz]
  rw [if_pos (by
    refine ⟨by omega,by omega,by omega,by have h:=Int.ofNat_le.2 hmul; rw [Int.natCast_mul] at h; omega,by omega,by rw [hc,hs]; simp,by rw [hc]; simpa using hsc⟩)]
  simp only [anew,Int.toNat_natCast,hs,hc,zeros_rep z h0]
end Go.AI
namespace Go.Proofs.Ytglkphjjinmgmaa
open Go.AI
set_option maxRecDepth 100000 in
theorem pick_spec {B b:Nat} {H:Heap} {v:Value} {xs:List Int} (hB:B<=b) (hn:B<=H.n) (hb:Box b H) (hv:Ints H v xs) (h0:0 < xs.length) (h9:xs.length<=1000) :
    CallB Try.prog B 66 [bp b,v] H (fun r H'=>(∃ i,i < xs.length∧r = .int .i64 xs[i]!)∧Box b H'∧KeepX b H H'):=by
  refine CV.enter callees false rfl Try.func66 rfl (by kernel_rfl) (Nat.le_of_ble_eq_true rfl) hn ?_
  repeat' first | refine CO.cons rfl ?_ | refine CO.nil ?_ | refine CV.seq ?_ | refine CV.region callees ?_ | refine CV.cond ?_ | refine CV.skip ?_ | refine ⟨_,ints_len (by assumption),?_⟩ | (refine ⟨fun _=>?_,fun _=>?_⟩<;>try (exfalso; omega)) | fail
  refine (up_spec hB hn hb (by omega)).mono ?_
  rintro r H2 ⟨⟨x,rfl,hx0,hx1⟩,hb2,hk2⟩
  have hv2:Ints H2 v xs:=row_box hv hk2 hb
  repeat' first | refine CO.cons rfl ?_ | refine CO.nil ?_ | refine CV.ret ?_ | refine ⟨_,ints_addr (by assumption) (by omega) (by omega),?_⟩ | refine ⟨_,ints_load (by assumption) (by omega) (by omega),?_⟩ | fail
  exact ⟨rfl,⟨x.toNat,by omega,rfl⟩,hb2,hk2⟩
end Go.Proofs.Ytglkphjjinmgmaa
