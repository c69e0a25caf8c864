/- Whatever an argument is made of (numbers,bools,strings,structs,arrays,slices of these),and how it is seen. -/
import Derived.Test.YtglkphjjinmgmaaX4
import Derived.Test.YtglkphjjinmgmaaEu
import Derived.ProofKit
import Derived.OpenShut
import Derived.DataReads
import Derived.ChangeOld
import Derived.Handed
set_option linter.unusedVariables false
set_option linter.unusedSimpArgs false
namespace Go.AI
open Go.RowKit Go.ChangeShapes Go.WideShapes
def leavesF (P:Program) (g:TypeId->Option (List TypeId)):Nat->List Field->Option (List TypeId)
  | _,[]=>some []
  | off,f :: fs =>
    match g f.type with
    | some l=>if f.offset = off∧l.length = P.cellsOf f.type then (leavesF P g (off + l.length) fs).map (l ++ ·) else none
    | none=>none
def leaves (P:Program):Nat->TypeId->Option (List TypeId)
  | 0,_=>none
  | n + 1,t =>
    match P.underlying t with
    | some .bool=>some [t]
    | some (.int _)=>some [t]
    | some .string=>some [t]
    | some (.slice _)=>some [t]
    | some (.struct fs)=>(leavesF P (leaves P n) 0 fs.toList).bind fun l=>if l.length = P.cellsOf t then some l else none
    | some (.array k e)=>(leaves P n e).bind fun l=>if l.length = P.cellsOf e∧k * l.length = P.cellsOf t then some (List.replicate k l).flatten else none
    | _=>none
def okL (P:Program):Nat->TypeId->Bool
  | 0,_=>false
  | d + 1,t =>
    match P.underlying t with
    | some .bool=>true
    | some (.int _)=>true
    | some .string=>true
    | some (.slice e)=>match leaves P 9 e with | some ts=>decide (ts.length = P.cellsOf e) && decide (0 < ts.length) && ts.all (okL P d) | none=>false
    | _=>false
def DatL (P:Program):Nat->Heap->TypeId->Value->Prop
  | 0,_,_,_=>False
  | d + 1,H,t,v =>
    match P.underlying t with
    | some .bool=>∃ b,v = .bool b
    | some (.int k)=>∃ n,v = .int k n∧(Lit.int k n).wf = true
    | some .string=>∃ s:ByteArray,v = .string s∧s.size<=maxLen
    | some (.slice e)=>∃ ts rs,leaves P 9 e = some ts∧RowS ts.length H v rs∧rs.length<=maxLen∧∀ r ∈ rs,L2 (DatL P d H) ts r
    | _=>False
section
variable {P:Program} {Hd:Type} {enc:TypeId × Value->Hd} {w:World}
abbrev Leaf (enc:TypeId × Value->Hd) (P:Program) (w:World) (t:TypeId) (c:Value):Prop:=∃ m x,DataW.trod enc P w 0 (fun _=>true) true m t [c] = some x
theorem leavesF_at {n n':Nat} {cs:List Value} (ih:∀ {t cs ts},(∃ x,DataW.trod enc P w 0 (fun _=>true) true n' t cs = some x)->leaves P n t = some ts->L2 (Leaf enc P w) ts cs) :
    ∀ (fs:List Field) (off:Nat) (ts:List TypeId),leavesF P (leaves P n) off fs = some ts->(∀ f ∈ fs,∃ x,DataW.trod enc P w 0 (fun _=>true) true n' f.type ((cs.drop f.offset).take (P.cellsOf f.type)) = some x)->L2 (Leaf enc P w) ts ((cs.drop off).take ts.length)
  | [],off,ts,h,_=>by
    simp only [leavesF,Option.some.injEq] at h
    subst h
    rw [List.length_nil,List.take_zero]
    exact .nil
  | f :: fs,off,ts,h,hf=>by
    simp only [leavesF] at h
    split at h
    · rename_i l hl
      split at h
      · rename_i hc
        obtain ⟨ho,hlen⟩:=hc
        rw [Option.map_eq_some_iff] at h
        obtain ⟨r,hr,rfl⟩:=h
        have h1:=ih (hf f (List.mem_cons_self ..)) hl
        have h2:=leavesF_at ih fs (off + l.length) r hr fun g hg=>hf g (List.mem_cons_of_mem _ hg)
        rw [ho,<- hlen] at h1
        have h3:=h1.append h2
        rw [List.length_append,List.take_add,List.drop_drop]
        exact h3
      · cases h
    · cases h
theorem leaves_at:∀ (n:Nat) {m:Nat} {t:TypeId} {cs:List Value} {ts:List TypeId},(∃ x,DataW.trod enc P w 0 (fun _=>true) true m t cs = some x)->leaves P n t = some ts->L2 (Leaf enc P w) ts cs
  | 0,m,t,cs,ts,h,hl=>by simp [leaves] at hl
  | n + 1,m,t,cs,ts,⟨x,h⟩,hl=>by
    have hh:=h
    simp only [leaves] at hl
    split at hl
    · rename_i hu; cases hl
      obtain ⟨b,rfl,_⟩:=DataW.trod_bool hu h
      exact .cons ⟨m,x,hh⟩ .nil
    · rename_i hu; cases hl
      obtain ⟨b,rfl,_⟩:=DataW.trod_int hu h
      exact .cons ⟨m,x,hh⟩ .nil
    · rename_i hu; cases hl
      obtain ⟨b,rfl,_⟩:=DataW.trod_string hu h
      exact .cons ⟨m,x,hh⟩ .nil
    · rename_i hu; cases hl
      rcases DataW.trod_slice hu h with ⟨rfl,_⟩ | ⟨a,len,cap,_,_,_,_,rfl,_⟩
      · exact .cons ⟨m,x,hh⟩ .nil
      · exact .cons ⟨m,x,hh⟩ .nil
    · rename_i fs hu
      rw [Option.bind_eq_some_iff] at hl
      obtain ⟨l,hl1,hl2⟩:=hl
      split at hl2
      · rename_i hlen
        cases hl2
        obtain ⟨xs,n',rfl,_,hcl,hxl,hf⟩:=DataW.trod_struct hu h
        have:=leavesF_at (cs:=cs) (fun {t cs ts} h1 h2=>leaves_at n (m:=n') (t:=t) (cs:=cs) (ts:=ts) h1 h2) fs.toList 0 ts hl1 fun f hfm=>by
          obtain ⟨i,hi⟩:=List.getElem?_of_mem hfm
          rw [Array.getElem?_toList] at hi
          have h1:=hf i f hi
          have hix:i < xs.length:=by rw [hxl]; exact (Array.getElem?_eq_some_iff.1 hi).1
          exact ⟨xs[i],by rw [h1,List.getElem?_eq_getElem hix]⟩
        rw [List.drop_zero,hlen,<- hcl,List.take_length] at this
        exact this
      · cases hl2
    · rename_i k e hu
      rw [Option.bind_eq_some_iff] at hl
      obtain ⟨l,hl1,hl2⟩:=hl
      split at hl2
      · rename_i hlen
        cases hl2
        obtain ⟨xs,n',rfl,_,hcl,hxl,hf⟩:=DataW.trod_array hu h
        have key:∀ j,j<=k->L2 (Leaf enc P w) (List.replicate j l).flatten (cs.take (j * l.length)):=by
          intro j
          induction j with
          | zero=>intro _; rw [Nat.zero_mul,List.take_zero]; exact .nil
          | succ j ihj =>
            intro hj
            have h1:=hf j (by omega)
            have hjx:j < xs.length:=by omega
            have h2:=leaves_at n (m:=n') (ts:=l) ⟨xs[j],by rw [h1,List.getElem?_eq_getElem hjx]⟩ hl1
            have h3:=(ihj (by omega)).append h2
            rw [<- hlen.1] at h3
            rw [Nat.succ_mul,List.take_add,List.replicate_succ',List.flatten_append]
            simpa using h3
        have:=key k (Nat.le_refl _)
        rw [hlen.2,<- hcl,List.take_length] at this
        exact this
      · cases hl2
    · cases hl
theorem seenR_le (l k:List Seen):Ren.le (seenR l) (seenR (l ++ k)):=by
  intro b e h
  unfold seenR at h ⊢
  rw [Option.map_eq_some_iff] at h ⊢
  obtain ⟨s,hs,he⟩:=h
  exact ⟨s,by rw [List.getElem?_append_left (List.getElem?_eq_some_iff.1 hs).1]; exact hs,he⟩
def SeenOk (w:World) (l:List Seen):Prop:=∀ s ∈ l,s.ent.blk < w.heap.size∧(s.obj = .gone ∨ ∃ cs e ys,s.obj = .cells cs e 0∧L2 (VC (seenR l)) cs ys∧∀ (i:Nat) v,ys[i]? = some v->w.cell? ⟨s.ent.blk,s.ent.base + i,none⟩ = some v)
theorem SeenOk.nil:SeenOk w []:=fun s h=>by cases h
theorem SeenOk.push {l:List Seen} {s:Seen} (h:SeenOk w l) (h1:s.ent.blk < w.heap.size) {cs:List Value} {e:TypeId} {ys:List Value} (h2:s.obj = .cells cs e 0) (h3:L2 (VC (seenR l)) cs ys) (h4:∀ (i:Nat) v,ys[i]? = some v->w.cell? ⟨s.ent.blk,s.ent.base + i,none⟩ = some v):SeenOk w (l ++ [s]):=by
  intro x hx
  rcases List.mem_append.1 hx with hx | hx
  · obtain ⟨g1,g2⟩:=h x hx
    refine ⟨g1,?_⟩
    rcases g2 with g2 | ⟨cs',e',ys',g2,g3,g4⟩
    · exact .inl g2
    · exact .inr ⟨cs',e',ys',g2,g3.mono fun _ _=>VC.mono (seenR_le _ _),g4⟩
  · rw [List.mem_singleton] at hx
    subst hx
    exact ⟨h1,.inr ⟨cs,e,ys,h2,h3.mono fun _ _=>VC.mono (seenR_le _ _),h4⟩⟩
def Holds (H:Heap) (l:List Seen):Prop:=∀ (i:Nat) s,l[i]? = some s->i < H.n∧H.get i = some s.obj
theorem Holds.left {H:Heap} {l k:List Seen} (h:Holds H (l ++ k)):Holds H l:=fun i s hs=>h i s (by rw [List.getElem?_append_left (List.getElem?_eq_some_iff.1 hs).1]; exact hs)
theorem choose_list {α:Type} {p:Nat->α->Prop}:∀ n,(∀ i,i < n->∃ x,p i x)->∃ l:List α,l.length = n∧∀ i x,l[i]? = some x->p i x
  | 0,_=>⟨[],rfl,fun i x h=>by simp at h⟩
  | n + 1,h=>by
    obtain ⟨l,hl,hp⟩:=choose_list n fun i hi=>h i (by omega)
    obtain ⟨x,hx⟩:=h n (by omega)
    refine ⟨l ++ [x],by simp [hl],fun i y hy=>?_⟩
    by_cases hi:i < l.length
    · rw [List.getElem?_append_left hi] at hy; exact hp i y hy
    · rw [List.getElem?_append_right (by omega)] at hy
      have:i = n:=by
        have:=(List.getElem?_eq_some_iff.1 hy).1
        simp at this; omega
      subst this
      rw [hl] at hy
      simp at hy; subst hy; exact hx
theorem L2.flat {α β:Type} {R:α->β->Prop} {ts:List α}:∀ {css:List (List β)},(∀ c ∈ css,L2 R ts c)->L2 R (List.replicate css.length ts).flatten css.flatten
  | [],_=>.nil
  | c :: css,h=>by
    rw [List.length_cons,List.replicate_succ,List.flatten_cons,List.flatten_cons]
    exact (h c (List.mem_cons_self ..)).append (L2.flat fun x hx=>h x (List.mem_cons_of_mem _ hx))
theorem rep_at {α:Type} {ts:List α}:∀ {n j q:Nat} {t:α},j < n->ts[q]? = some t->(List.replicate n ts).flatten[j * ts.length + q]? = some t
  | 0,j,q,t,hj,_=>by omega
  | n + 1,0,q,t,_,hq=>by
    rw [List.replicate_succ,List.flatten_cons,Nat.zero_mul,Nat.zero_add,List.getElem?_append_left (List.getElem?_eq_some_iff.1 hq).1]; exact hq
  | n + 1,j + 1,q,t,hj,hq=>by
    have hm:(j + 1) * ts.length = ts.length + j * ts.length:=by rw [Nat.succ_mul,Nat.add_comm]
    rw [List.replicate_succ,List.flatten_cons,List.getElem?_append_right (by omega),show (j + 1) * ts.length + q - ts.length = j * ts.length + q by omega]
    exact rep_at (by omega) hq
theorem seen_row {d:Nat} (ih:∀ (m:Nat) (t:TypeId) (c:Value) (x:DataW Hd × List MemPlace),DataW.trod enc P w 0 (fun _=>true) true m t [c] = some x->okL P d t = true->∀ l,SeenOk w l->∃ l2 c',SeenOk w (l ++ l2)∧VC (seenR (l ++ l2)) c' c∧∀ H,Holds H (l ++ l2)->DatL P d H t c') :
    ∀ (ts:List TypeId) (cs:List Value),L2 (Leaf enc P w) ts cs->ts.all (okL P d) = true->∀ l,SeenOk w l->∃ l2 cs',SeenOk w (l ++ l2)∧L2 (VC (seenR (l ++ l2))) cs' cs∧∀ H,Holds H (l ++ l2)->L2 (DatL P d H) ts cs':=by
  intro ts cs h
  induction h with
  | nil=>intro _ l hl; exact ⟨[],[],by rw [List.append_nil]; exact hl,.nil,fun _ _=>.nil⟩
  | cons h0 _ ihr =>
    intro hok l hl
    rw [List.all_cons,Bool.and_eq_true] at hok
    obtain ⟨m,x,hx⟩:=h0
    obtain ⟨l2,c',g1,g2,g3⟩:=ih m _ _ x hx hok.1 l hl
    obtain ⟨l3,cs',k1,k2,k3⟩:=ihr hok.2 (l ++ l2) g1
    rw [List.append_assoc] at k1 k2 k3
    refine ⟨l2 ++ l3,c' :: cs',k1,.cons ?_ k2,fun H hH=>.cons (g3 H ?_) (k3 H hH)⟩
    · have:=seenR_le (l ++ l2) l3
      rw [List.append_assoc] at this
      exact VC.mono this g2
    · rw [<- List.append_assoc] at hH; exact hH.left
theorem add_none {b off n:Nat}:Addr.add ⟨b,off,none⟩ n = ⟨b,off + n,none⟩:=by
  unfold Addr.add
  split
  · rename_i h; subst h; rfl
  · rfl
theorem seen_leaf:∀ (d m:Nat) (t:TypeId) (c:Value) (x:DataW Hd × List MemPlace),DataW.trod enc P w 0 (fun _=>true) true m t [c] = some x->okL P d t = true->∀ l,SeenOk w l->∃ l2 c',SeenOk w (l ++ l2)∧VC (seenR (l ++ l2)) c' c∧∀ H,Holds H (l ++ l2)->DatL P d H t c'
  | 0,m,t,c,x,h,hok,l,hl=>by simp [okL] at hok
  | d + 1,m,t,c,x,h,hok,l,hl=>by
    simp only [okL] at hok
    split at hok
    · rename_i hu
      obtain ⟨b,hb,_⟩:=DataW.trod_bool hu h
      cases hb
      exact ⟨[],.bool b,by rw [List.append_nil]; exact hl,.same rfl,fun H _=>by simp only [DatL,hu]; exact ⟨b,rfl⟩⟩
    · rename_i k hu
      obtain ⟨b,hb,_,hw⟩:=DataW.trod_int hu h
      cases hb
      exact ⟨[],.int k b,by rw [List.append_nil]; exact hl,.same rfl,fun H _=>by simp only [DatL,hu]; exact ⟨b,rfl,hw⟩⟩
    · rename_i hu
      obtain ⟨b,hb,_,hw⟩:=DataW.trod_string hu h
      cases hb
      exact ⟨[],.string b,by rw [List.append_nil]; exact hl,.same rfl,fun H _=>by simp only [DatL,hu]; exact ⟨b,rfl,hw⟩⟩
    · rename_i e hu
      split at hok
      · rename_i ts hts
        simp only [Bool.and_eq_true,decide_eq_true_eq] at hok
        obtain ⟨⟨htl,htp⟩,hall⟩:=hok
        rcases DataW.trod_slice hu h with ⟨hc,_⟩ | ⟨a,len,cap,elems,rest,n,_,hc,_,_,hlc,hcm,hel,hes,_,_⟩
        · cases hc
          refine ⟨[],.slice none 0 0,by rw [List.append_nil]; exact hl,.same rfl,fun H _=>?_⟩
          simp only [DatL,hu]
          exact ⟨ts,[],hts,⟨fun r hr=>by simp at hr,.inl ⟨rfl,rfl⟩⟩,by simp,fun r hr=>by simp at hr⟩
        · cases hc
          by_cases h0:len = 0
          · subst h0
            refine ⟨[],anon,by rw [List.append_nil]; exact hl,.anon _ _,fun H _=>?_⟩
            simp only [DatL,hu]
            exact ⟨ts,[],hts,⟨fun r hr=>by simp at hr,.inr (.inl ⟨rfl,rfl⟩)⟩,by simp,fun r hr=>by simp at hr⟩
          · obtain ⟨b,off,spot⟩:=a
            have each:∀ i,i < len->∃ cs:List Value,(cs.length = ts.length∧∀ q,q < ts.length->w.cell? ((Addr.add ⟨b,off,spot⟩ (i * ts.length)).add q) = cs[q]?)∧L2 (Leaf enc P w) ts cs:=by
              intro i hi
              have h1:=hes i hi
              rw [List.getElem?_eq_getElem (by omega),Option.bind_eq_some_iff] at h1
              obtain ⟨cs,h2,h3⟩:=h1
              obtain ⟨_,h4,h5⟩:=World.cells?_some h2
              rw [<- htl] at h4 h5
              exact ⟨cs,⟨h4,h5⟩,leaves_at 9 ⟨_,h3⟩ hts⟩
            obtain ⟨css,hcl,hcs⟩:=choose_list len each
            have hc0:∃ v,w.cell? ⟨b,off,spot⟩ = some v:=by
              obtain ⟨cs,⟨g1,g2⟩,_⟩:=each 0 (by omega)
              have:=g2 0 (by omega)
              rw [List.getElem?_eq_getElem (by omega)] at this
              exact ⟨_,by simpa [Addr.add] using this⟩
            obtain ⟨v0,hv0⟩:=hc0
            have hspot:spot = none:=World.cell?_spot hv0
            subst hspot
            have hb:b < w.heap.size:=by
              apply Classical.byContradiction
              intro hb
              have:w.heap[b]? = none:=by simp; omega
              simp [World.cell?,this] at hv0
            have hmem:∀ c ∈ css,c.length = ts.length∧L2 (Leaf enc P w) ts c:=by
              intro c hc
              obtain ⟨i,hi⟩:=List.getElem?_of_mem hc
              exact ⟨(hcs i c hi).1.1,(hcs i c hi).2⟩
            obtain ⟨l2,cs',g1,g2,g3⟩:=seen_row (fun m t c x=>seen_leaf d m t c x) (List.replicate css.length ts).flatten css.flatten (L2.flat fun c hc=>(hmem c hc).2)
              (by rw [List.all_eq_true]; intro y hy; rw [List.mem_flatten] at hy; obtain ⟨q,hq,hy⟩:=hy; rw [List.eq_of_mem_replicate hq] at hy; exact List.all_eq_true.1 hall y hy) l hl
            have hfl:=flat_len fun r hr=>(hmem r hr).1
            have hcl':cs'.length = css.length * ts.length:=by rw [g2.length,hfl]
            have hys:∀ (i:Nat) v,css.flatten[i]? = some v->w.cell? ⟨b,off + i,none⟩ = some v:=by
              intro i v hv
              have hi:=(List.getElem?_eq_some_iff.1 hv).1
              rw [hfl] at hi
              have hd:i / ts.length < css.length:=Nat.div_lt_of_lt_mul (by rw [Nat.mul_comm]; exact hi)
              have hq:i % ts.length < ts.length:=Nat.mod_lt _ htp
              have hie:i / ts.length * ts.length + i % ts.length = i:=by rw [Nat.mul_comm]; exact Nat.div_add_mod i _
              have hj:css[i / ts.length]? = some css[i / ts.length]:=List.getElem?_eq_getElem hd
              obtain ⟨⟨k1,k2⟩,_⟩:=hcs _ _ hj
              have hq2:(css[i / ts.length])[i % ts.length]? = some (css[i / ts.length])[i % ts.length]:=List.getElem?_eq_getElem (by omega)
              have e1:=flat_at (fun r hr=>(hmem r hr).1) hj hq2
              rw [hie,hv] at e1
              have e2:=k2 _ hq
              rw [hq2,add_none,add_none,Nat.add_assoc,hie,<- e1] at e2
              exact e2
            refine ⟨l2 ++ [⟨⟨b,off,0⟩,.cells cs' e 0⟩],.slice (some ⟨(l ++ l2).length,0,none⟩) len 1,?_,?_,fun H hH=>?_⟩
            · rw [<- List.append_assoc]
              exact g1.push hb rfl g2 hys
            · rw [<- List.append_assoc]
              have hρ:seenR ((l ++ l2) ++ [⟨⟨b,off,0⟩,.cells cs' e 0⟩]) (l ++ l2).length = some ⟨b,off,0⟩:=by
                unfold seenR
                rw [List.getElem?_append_right (Nat.le_refl _)]
                simp
              have:=VC.sl (b:=(l ++ l2).length) (i:=0) (n:=len) (c:=1) (c':=cap) hρ hlc (by intro h; cases h)
              simpa using this
            · rw [<- List.append_assoc] at hH
              have hD:=g3 H hH.left
              obtain ⟨hn,hg⟩:=hH (l ++ l2).length _ (by rw [List.getElem?_append_right (Nat.le_refl _)]; simp; rfl)
              simp only [DatL,hu]
              have hrl:∀ r ∈ (List.range len).map (fun j=>(cs'.drop (j * ts.length)).take ts.length),r.length = ts.length:=by
                intro r hr
                obtain ⟨j,hj,rfl⟩:=List.mem_map.1 hr
                have hj:=List.mem_range.1 hj
                have:(j + 1) * ts.length<=len * ts.length:=Nat.mul_le_mul_right _ hj
                rw [Nat.succ_mul] at this
                rw [List.length_take,List.length_drop,hcl',hcl]
                omega
              refine ⟨ts,(List.range len).map (fun j=>(cs'.drop (j * ts.length)).take ts.length),hts,⟨hrl,.inr (.inr ⟨_,0,1,cs',e,0,by simp,hn,hg,by decide,by simp [hcl',hcl],?_⟩)⟩,by simp; omega,?_⟩
              · intro j q r v hj hq
                rw [List.getElem?_map,Option.map_eq_some_iff] at hj
                obtain ⟨j',hj',rfl⟩:=hj
                have:j' = j:=by
                  rw [List.getElem?_range (by have:=(List.getElem?_eq_some_iff.1 hj').1; simpa using this)] at hj'
                  exact (Option.some.inj hj').symm
                subst this
                rw [List.getElem?_take] at hq
                split at hq
                · rw [List.getElem?_drop] at hq
                  rw [Nat.zero_add]; exact hq
                · cases hq
              · intro r hr
                have hrl':=hrl r hr
                obtain ⟨j,hj,rfl⟩:=List.mem_map.1 hr
                have hj:=List.mem_range.1 hj
                refine L2.of_get hrl'.symm fun q tq v hq hv=>?_
                rw [List.getElem?_take] at hv
                split at hv
                · rw [List.getElem?_drop] at hv
                  exact hD.both (rep_at (by omega) hq) hv
                · cases hv
      · cases hok
    · cases hok
def DatV (P:Program) (H:Heap) (t:TypeId) (v:Value):Prop :=
  match isAggB P t with
  | some true=>∃ ts cs,leaves P 9 t = some ts∧v = .agg cs.toArray∧L2 (DatL P 9 H) ts cs
  | _=>DatL P 9 H t v
def okV (P:Program) (t:TypeId):Bool :=
  P.readableRec t && decide (t < P.types.size) &&
  match isAggB P t with
  | some true=>match leaves P 9 t with | some ts=>ts.all (okL P 9) | none=>false
  | _=>okL P 9 t
theorem seen_value {r:Reach} {b0:Nat} {t:TypeId} {v:Value} {dd:DataW Hd} {p:List MemPlace} (h:DataW.Trod enc P w 0 (fun _=>true) true t v dd p) (hval:Value.okWide P w r b0 t v) (hok:okV P t = true) (l:List Seen) (hl:SeenOk w l) :
    ∃ l2 v',SeenOk w (l ++ l2)∧VT (seenR (l ++ l2)) v' v∧∀ H,Holds H (l ++ l2)->DatV P H t v':=by
  obtain ⟨m,hm⟩:=h
  unfold okV at hok
  rw [Bool.and_eq_true] at hok
  obtain ⟨_,hok⟩:=hok
  have agg:isAggB P t = some true->(∃ cs,v = .agg cs):=by
    intro ha
    unfold Value.okWide at hval
    unfold isAggB at ha
    split at ha
    · rename_i hu; rw [hu] at hval; obtain ⟨cs,h,_⟩:=hval; exact ⟨cs,h⟩
    · rename_i hu; rw [hu] at hval; obtain ⟨cs,h,_⟩:=hval; exact ⟨cs,h⟩
    · cases ha
    · cases ha
  cases ha:isAggB P t with
  | none =>
    rw [ha] at hok
    exfalso
    unfold isAggB at ha
    have hok:okL P 9 t = true:=hok
    simp only [okL] at hok
    split at ha
    · cases ha
    · cases ha
    · cases ha
    · rename_i hu; rw [hu] at hok; cases hok
  | some a =>
    rw [ha] at hok
    cases a with
    | true =>
      obtain ⟨cs,rfl⟩:=agg ha
      have hok:(match leaves P 9 t with | some ts=>ts.all (okL P 9) | none=>false) = true:=hok
      cases hts:leaves P 9 t with
      | none=>rw [hts] at hok; cases hok
      | some ts =>
        rw [hts] at hok
        have h1:=leaves_at 9 ⟨_,hm⟩ hts
        obtain ⟨l2,cs',g1,g2,g3⟩:=seen_row (fun m t c x=>seen_leaf 9 m t c x) ts _ h1 hok l hl
        exact ⟨l2,.agg cs'.toArray,g1,.one (.agg (by simpa [Value.cells] using g2)),fun H hH=>by unfold DatV; rw [ha]; exact ⟨ts,cs',hts,rfl,g3 H hH⟩⟩
    | false =>
      have hok:okL P 9 t = true:=hok
      have hv:v.cells.toList = [v]:=by
        simp only [okL] at hok
        split at hok
        · rename_i hu; obtain ⟨b,rfl⟩:=okWide_bool hu hval; rfl
        · rename_i hu; obtain ⟨b,rfl⟩:=okWide_int hu hval; rfl
        · rename_i hu; obtain ⟨b,rfl⟩:=okWide_string hu hval; rfl
        · rename_i hu; obtain ⟨a,b,c,rfl⟩:=okWide_slice hu hval; rfl
        · cases hok
      rw [hv] at hm
      obtain ⟨l2,c',g1,g2,g3⟩:=seen_leaf 9 m t v _ hm hok l hl
      exact ⟨l2,c',g1,.one (.cell g2),fun H hH=>by unfold DatV; rw [ha]; exact g3 H hH⟩
theorem seen_values {r:Reach} {b0:Nat}:∀ {ts:List TypeId} {vs:List Value} {ds:List (DataW Hd)} {p:List MemPlace},DataW.TrodAll enc P w 0 (fun _=>true) true ts vs ds p->(∀ (j:Nat) t v,ts[j]? = some t->vs[j]? = some v->Value.okWide P w r b0 t v)->ts.all (okV P) = true->∀ (l:List Seen),SeenOk w l ->
    ∃ l2 vs',SeenOk w (l ++ l2)∧L2 (VT (seenR (l ++ l2))) vs' vs∧∀ H,Holds H (l ++ l2)->L2 (DatV P H) ts vs'
  | [],vs,ds,p,h,hv,hok,l,hl=>by
    obtain ⟨rfl,rfl,rfl⟩:=trodAll_nil h
    exact ⟨[],[],by rw [List.append_nil]; exact hl,.nil,fun _ _=>.nil⟩
  | t :: ts,vs,ds,p,h,hv,hok,l,hl=>by
    obtain ⟨v,vs',d,ds',p',q,rfl,rfl,rfl,h1,h2⟩:=trodAll_cons h
    rw [List.all_cons,Bool.and_eq_true] at hok
    obtain ⟨l2,v',g1,g2,g3⟩:=seen_value h1 (hv 0 t v rfl rfl) hok.1 l hl
    obtain ⟨l3,vs'',k1,k2,k3⟩:=seen_values h2 (fun j t v ht hv'=>hv (j + 1) t v (by simpa using ht) (by simpa using hv')) hok.2 (l ++ l2) g1
    rw [List.append_assoc] at k1 k2 k3
    refine ⟨l2 ++ l3,v' :: vs'',k1,.cons ?_ k2,fun H hH=>.cons (g3 H ?_) (k3 H hH)⟩
    · have:=seenR_le (l ++ l2) l3
      rw [List.append_assoc] at this
      exact g2.mono this
    · rw [<- List.append_assoc] at hH; exact hH.left
theorem seenOk_hr {l:List Seen} (h:SeenOk w l) (hg:P.globals.size = 0):HR P w.heap.size (seenR l) (seenH l) w:=by
  have hget:∀ b o,(seenH l).get b = some o->∃ s,l[b]? = some s∧s.obj = o:=by
    intro b o h
    rw [seenH,base_get,List.getElem?_map] at h
    cases hs:l[b]? with
    | none=>rw [hs] at h; cases h
    | some s=>rw [hs] at h; exact ⟨s,rfl,Option.some.inj h⟩
  have hr:∀ b e,seenR l b = some e->∃ s,l[b]? = some s∧s.ent = e:=by
    intro b e h
    rw [seenR] at h
    cases hs:l[b]? with
    | none=>rw [hs] at h; cases h
    | some s=>rw [hs] at h; exact ⟨s,rfl,Option.some.inj h⟩
  refine ⟨fun b hb=>?_,fun b e hb=>?_,fun b o hb=>?_,fun b o e hb he=>?_,fun b b' o e e' hb he he' hw hh=>?_,fun b e hb=>?_,fun g hgl=>by omega,Nat.le_refl _⟩
  · rw [seenH,base_n,List.length_map] at hb
    exact ⟨l[b].ent,by rw [seenR,List.getElem?_eq_getElem hb]; rfl⟩
  · obtain ⟨s,hs,_⟩:=hr b e hb
    rw [seenH,base_n,List.length_map]; exact (List.getElem?_eq_some_iff.1 hs).1
  · obtain ⟨s,hs,_⟩:=hget b o hb
    rw [seenH,base_n,List.length_map]; exact (List.getElem?_eq_some_iff.1 hs).1
  · obtain ⟨s,hs,rfl⟩:=hget b o hb
    obtain ⟨s',hs',rfl⟩:=hr b e he
    rw [hs] at hs'; cases hs'
    obtain ⟨h1,h2⟩:=h s (List.mem_of_getElem? hs)
    rcases h2 with h2 | ⟨cs,e,ys,h2,h3,h4⟩
    · rw [h2]; trivial
    · rw [h2]; exact ⟨h1,ys,h3,h4⟩
  · obtain ⟨s,hs,rfl⟩:=hget b' o hb
    obtain ⟨_,h2⟩:=h s (List.mem_of_getElem? hs)
    rcases h2 with h2 | ⟨cs,e,ys,h2,_⟩
    · rw [h2] at hw; cases hw
    · rw [h2] at hw; simp [writable] at hw
  · obtain ⟨s,hs,rfl⟩:=hr b e hb
    exact (h s (List.mem_of_getElem? hs)).1
theorem seenH_holds (l:List Seen):Holds (seenH l) l:=fun i s hs=>⟨by rw [seen_n]; exact (List.getElem?_eq_some_iff.1 hs).1,seen_get hs⟩
theorem run_args [Oracle P] {r:Reach} {b0:Nat} {f:FuncId} {ts:List TypeId} {args:Array Value} {ds:List (DataW Hd)} {p:List MemPlace} (hm:P.follows .mixedOrders = true) (hg:P.globals.size = 0) (hO:OracleOK P w.heap.size) (h:DataW.TrodAll enc P w 0 (fun _=>true) true ts args.toList ds p)
    (hval:∀ (j:Nat) t v,ts[j]? = some t->args.toList[j]? = some v->Value.okWide P w r b0 t v) (hok:ts.all (okV P) = true)
    (spec:∀ (H:Heap) vs,L2 (DatV P H) ts vs->CallB P H.n f vs H (fun r _=>r = .bool true)) (hW:WildOK P w.heap.size:=by exact wild_none fun _=>rfl) :
    Calls P f args w fun e w'=>e = .returned (.bool true)∧Below w.heap.size w w':=by
  obtain ⟨l,vs,h1,h2,h3⟩:=seen_values h hval hok [] SeenOk.nil
  rw [List.nil_append] at h1 h2 h3
  have hrun:=run_of (B:=w.heap.size) (f:=f) (l:=vs) (args:=args) hm hO (seenOk_hr h1 hg) h2 (spec (seenH l) vs (h3 _ (seenH_holds l))) hW
  refine hrun.mono fun e W' ⟨u,u',H',ρ',he,hu,hq,bel⟩=>?_
  subst he; subst hq
  exact ⟨by rw [show u' = .bool true from hu.plain rfl],bel⟩
theorem trodAll_below (hlaid:laidOutB P = true) {w':World} (hb:Below w.heap.size w w'):∀ {ts:List TypeId} {vs:List Value} {ds:List (DataW Hd)} {p:List MemPlace},ts.all (okV P) = true->DataW.TrodAll enc P w 0 (fun _=>true) true ts vs ds p->DataW.TrodAll enc P w' 0 (fun b=>decide (b < w.heap.size)) true ts vs ds p
  | [],vs,ds,p,_,h=>by
    obtain ⟨rfl,rfl,rfl⟩:=trodAll_nil h
    exact rfl
  | t :: ts,vs,ds,p,hok,h=>by
    obtain ⟨v,vs',d,ds',p',q,rfl,rfl,rfl,h1,h2⟩:=trodAll_cons h
    rw [List.all_cons,Bool.and_eq_true] at hok
    have ho:=hok.1
    unfold okV at ho
    rw [Bool.and_eq_true,Bool.and_eq_true] at ho
    have lt:∀ x ∈ p',x.block < w.heap.size:=by obtain ⟨m,hm⟩:=h1; exact DataW.trod_lt m _ _ _ hm
    exact trodAll_cons_mk (Below.trod hlaid ho.1.1 (of_decide_eq_true ho.1.2) h1 hb lt) (trodAll_below hlaid hb hok.2 h2)
end
end Go.AI
