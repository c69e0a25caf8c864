/- What an argument is: fires,kettles,pours,numbers. -/
import Derived.Test.YtglkphjjinmgmaaEo
import Derived.Test.YtglkphjjinmgmaaM3h
set_option linter.unusedVariables false
set_option linter.unusedSimpArgs false
namespace Go.Proofs.Ytglkphjjinmgmaa
open Go.AI
set_option maxRecDepth 100000
theorem unB8:Try.prog.underlying 4 = some .bool:=by kernel_rfl
theorem un22q:Try.prog.underlying 33 = some (.slice 3):=by kernel_rfl
theorem agIq:isAggB Try.prog 3 = some false:=by kernel_rfl
theorem agIsq:isAggB Try.prog 33 = some false:=by kernel_rfl
theorem agFiq:isAggB Try.prog 25 = some true:=by kernel_rfl
theorem agKeq:isAggB Try.prog 29 = some true:=by kernel_rfl
theorem agPsq:isAggB Try.prog 30 = some false:=by kernel_rfl
theorem lvI:leaves Try.prog 9 3 = some [3]:=by kernel_rfl
theorem lvCo:leaves Try.prog 9 32 = some [3,3,3,3,3,3,4]:=by kernel_rfl
theorem lvTo:leaves Try.prog 9 99 = some [3,3]:=by kernel_rfl
theorem lvPo:leaves Try.prog 9 82 = some [3,3,3]:=by kernel_rfl
theorem lvKe:leaves Try.prog 9 29 = some [3,3,3,3,3,3,3,3]:=by kernel_rfl
theorem lvFi:leaves Try.prog 9 25 = some [22,23]:=by kernel_rfl
theorem datL_int {d:Nat} {H:Heap} {c:Value} (h:DatL Try.prog (d + 1) H 3 c):∃ n,c = VJ n∧inI64 n:=by
  simp only [DatL,un3] at h
  obtain ⟨n,rfl,hn⟩:=h
  simp [Lit.wf,IntKind.min,IntKind.max,IntKind.signed,IntKind.bits] at hn
  exact ⟨n,rfl,by omega,by omega⟩
theorem datL_bool {d:Nat} {H:Heap} {c:Value} (h:DatL Try.prog (d + 1) H 4 c):∃ b,c = .bool b:=by
  simp only [DatL,unB8] at h
  exact h
theorem datL_row {d:Nat} {H:Heap} {t e:TypeId} {ts:List TypeId} {v:Value} (ht:Try.prog.underlying t = some (.slice e)) (hl:leaves Try.prog 9 e = some ts) (h:DatL Try.prog (d + 1) H t v) :
    ∃ rs,RowS ts.length H v rs∧rs.length<=9223372036854775807∧∀ r ∈ rs,L2 (DatL Try.prog d H) ts r:=by
  simp only [DatL,ht] at h
  obtain ⟨ts',rs,h1,h2,h3,h4⟩:=h
  rw [hl] at h1
  cases h1
  exact ⟨rs,h2,h3,h4⟩
theorem map_of {α β:Type} {p:α->Prop} {f:α->β}:∀ {rs:List β},(∀ r ∈ rs,∃ x,r = f x∧p x)->∃ xs:List α,rs = xs.map f∧∀ x ∈ xs,p x
  | [],_=>⟨[],rfl,fun _ h=>by cases h⟩
  | r :: rs,h=>by
    obtain ⟨x,rfl,hx⟩:=h r (by simp)
    obtain ⟨xs,rfl,hxs⟩:=map_of (rs:=rs) fun r hr=>h r (by simp [hr])
    exact ⟨x :: xs,rfl,fun y hy=>by
      rcases List.mem_cons.1 hy with rfl | hy
      · exact hx
      · exact hxs y hy⟩
theorem rowS_one {H:Heap} {v:Value} {vs:List Value} (h:RowS 1 H v (vs.map fun x=>[x])):Row H v vs:=by
  rcases h.2 with ⟨h1,h2⟩ | ⟨h1,h2⟩ | ⟨b,i,c,cs,e,k,h1,h2,h3,h4,h5,h6⟩
  · exact .inl ⟨h1,List.map_eq_nil_iff.1 h2⟩
  · exact .inr (.inl ⟨h1,List.map_eq_nil_iff.1 h2⟩)
  · refine .inr (.inr ⟨b,i,c,cs,e,k,by rw [h1,List.length_map],h2,h3,h4,by rw [List.length_map] at h5; omega,fun j w hj=>?_⟩)
    have:=h6 j 0 [w] w (by rw [List.getElem?_map,hj]; rfl) rfl
    rwa [Nat.mul_one,Nat.add_zero] at this
theorem datL_ints {d:Nat} {H:Heap} {v:Value} (h:DatL Try.prog (d + 2) H 33 v):∃ xs,Ints H v xs∧xs.length<=9223372036854775807∧∀ x ∈ xs,inI64 x:=by
  obtain ⟨rs,h1,h2,h3⟩:=datL_row un22q lvI h
  obtain ⟨xs,rfl,hx⟩:=map_of (f:=fun n=>[VJ n]) (p:=inI64) fun r hr=>by
    cases h3 r hr with
    | cons a b =>
      cases b
      obtain ⟨n,rfl,hn⟩:=datL_int a
      exact ⟨n,rfl,hn⟩
  rw [List.length_map] at h2
  refine ⟨xs,rowS_one ?_,h2,hx⟩
  rw [List.map_map]
  exact h1
theorem l2_coal {d:Nat} {H:Heap} {r:List Value} (h:L2 (DatL Try.prog (d + 1) H) [3,3,3,3,3,3,4] r):∃ c:Co,r = Col c:=by
  obtain _ | ⟨a1,h⟩:=h
  obtain _ | ⟨a2,h⟩:=h
  obtain _ | ⟨a3,h⟩:=h
  obtain _ | ⟨a4,h⟩:=h
  obtain _ | ⟨a5,h⟩:=h
  obtain _ | ⟨a6,h⟩:=h
  obtain _ | ⟨a7,h⟩:=h
  cases h
  obtain ⟨n1,rfl,_⟩:=datL_int a1
  obtain ⟨n2,rfl,_⟩:=datL_int a2
  obtain ⟨n3,rfl,_⟩:=datL_int a3
  obtain ⟨n4,rfl,_⟩:=datL_int a4
  obtain ⟨n5,rfl,_⟩:=datL_int a5
  obtain ⟨n6,rfl,_⟩:=datL_int a6
  obtain ⟨w,rfl⟩:=datL_bool a7
  exact ⟨⟨n1,n2,n3,n4,n5,n6,w⟩,rfl⟩
theorem datL_coals {d:Nat} {H:Heap} {v:Value} (h:DatL Try.prog (d + 2) H 22 v):∃ l:List Co,RowS 7 H v (l.map Col)∧l.length<=9223372036854775807:=by
  obtain ⟨rs,h1,h2,h3⟩:=datL_row un25 lvCo h
  obtain ⟨xs,rfl,_⟩:=map_of (f:=Col) (p:=fun _=>True) fun r hr=>by
    obtain ⟨c,rfl⟩:=l2_coal (h3 r hr)
    exact ⟨c,rfl,trivial⟩
  rw [List.length_map] at h2
  exact ⟨xs,h1,h2⟩
theorem datL_touches {d:Nat} {H:Heap} {v:Value} (h:DatL Try.prog (d + 2) H 23 v):∃ l:List (Int × Int),RowS 2 H v (l.map Hl)∧l.length<=9223372036854775807:=by
  obtain ⟨rs,h1,h2,h3⟩:=datL_row un26 lvTo h
  obtain ⟨xs,rfl,_⟩:=map_of (f:=Hl) (p:=fun _=>True) fun r hr=>by
    have h:=h3 r hr
    obtain _ | ⟨a1,h⟩:=h
    obtain _ | ⟨a2,h⟩:=h
    cases h
    obtain ⟨n1,rfl,_⟩:=datL_int a1
    obtain ⟨n2,rfl,_⟩:=datL_int a2
    exact ⟨(n1,n2),rfl,trivial⟩
  rw [List.length_map] at h2
  exact ⟨xs,h1,h2⟩
theorem datL_pours {d:Nat} {H:Heap} {v:Value} (h:DatL Try.prog (d + 2) H 30 v):∃ l:List Po,RowS 3 H v (l.map Pol)∧l.length<=9223372036854775807:=by
  obtain ⟨rs,h1,h2,h3⟩:=datL_row un53 lvPo h
  obtain ⟨xs,rfl,_⟩:=map_of (f:=Pol) (p:=fun _=>True) fun r hr=>by
    have h:=h3 r hr
    obtain _ | ⟨a1,h⟩:=h
    obtain _ | ⟨a2,h⟩:=h
    obtain _ | ⟨a3,h⟩:=h
    cases h
    obtain ⟨n1,rfl,_⟩:=datL_int a1
    obtain ⟨n2,rfl,_⟩:=datL_int a2
    obtain ⟨n3,rfl,_⟩:=datL_int a3
    exact ⟨⟨n1,n2,n3⟩,rfl,trivial⟩
  rw [List.length_map] at h2
  exact ⟨xs,h1,h2⟩
theorem dat_int {H:Heap} {v:Value} (h:DatV Try.prog H 3 v):∃ n,v = VJ n∧inI64 n:=by
  simp only [DatV,agIq] at h
  exact datL_int h
theorem dat_ints {H:Heap} {v:Value} (h:DatV Try.prog H 33 v):∃ xs,Ints H v xs∧xs.length<=9223372036854775807∧∀ x ∈ xs,inI64 x:=by
  simp only [DatV,agIsq] at h
  exact datL_ints h
theorem dat_pours {H:Heap} {v:Value} (h:DatV Try.prog H 30 v):∃ l:List Po,RowS 3 H v (l.map Pol)∧l.length<=9223372036854775807:=by
  simp only [DatV,agPsq] at h
  exact datL_pours h
theorem dat_kettle {H:Heap} {v:Value} (h:DatV Try.prog H 29 v):∃ k:Ke,v = Kev k:=by
  simp only [DatV,agKeq] at h
  obtain ⟨ts,cs,h1,rfl,h⟩:=h
  rw [lvKe] at h1
  cases h1
  obtain _ | ⟨a1,h⟩:=h
  obtain _ | ⟨a2,h⟩:=h
  obtain _ | ⟨a3,h⟩:=h
  obtain _ | ⟨a4,h⟩:=h
  obtain _ | ⟨a5,h⟩:=h
  obtain _ | ⟨a6,h⟩:=h
  obtain _ | ⟨a7,h⟩:=h
  obtain _ | ⟨a8,h⟩:=h
  cases h
  obtain ⟨n1,rfl,_⟩:=datL_int a1
  obtain ⟨n2,rfl,_⟩:=datL_int a2
  obtain ⟨n3,rfl,_⟩:=datL_int a3
  obtain ⟨n4,rfl,_⟩:=datL_int a4
  obtain ⟨n5,rfl,_⟩:=datL_int a5
  obtain ⟨n6,rfl,_⟩:=datL_int a6
  obtain ⟨n7,rfl,_⟩:=datL_int a7
  obtain ⟨n8,rfl,_⟩:=datL_int a8
  exact ⟨⟨n1,n2,n3,n4,n5,n6,n7,n8⟩,rfl⟩
theorem dat_fire {H:Heap} {v:Value} (h:DatV Try.prog H 25 v):∃ (cv tv:Value) (cs:List Co) (ts:List (Int × Int)),v = Fv cv tv∧RowS 7 H cv (cs.map Col)∧RowS 2 H tv (ts.map Hl)∧cs.length<=9223372036854775807∧ts.length<=9223372036854775807:=by
  simp only [DatV,agFiq] at h
  obtain ⟨ts,cs,h1,rfl,h⟩:=h
  rw [lvFi] at h1
  cases h1
  obtain _ | ⟨a1,h⟩:=h
  obtain _ | ⟨a2,h⟩:=h
  cases h
  obtain ⟨l,b1,b2⟩:=datL_coals a1
  obtain ⟨m,c1,c2⟩:=datL_touches a2
  exact ⟨_,_,l,m,rfl,b1,c1,b2,c2⟩
end Go.Proofs.Ytglkphjjinmgmaa
