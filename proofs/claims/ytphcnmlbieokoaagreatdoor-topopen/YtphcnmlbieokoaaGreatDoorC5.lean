import Derived.Test.YtphcnmlbieokoaaGreatDoorC4
import Derived.Deep.RegionWith
import Derived.Deep.CutRange
import Derived.Deep.QuietTactic
import Derived.BigQuiet
import Derived.BigRegion
import Derived.Laws.ResultCell
set_option maxRecDepth 100000
set_option maxHeartbeats 16000000
set_option linter.unusedVariables false
set_option linter.unusedSimpArgs false
namespace Go.Proofs.YtphcnmlbieokoaaGreatDoor.T
open Go.RowKit Go.Lib List Go.Proofs.Tryz
theorem FI (au b off n c:Nat) (aV:List Value) (w:World) (hl:aV.length=n*1) (hn:n<=100) (hb:au<=w.heap.size)
 (hc:∀j u,aV[j]? = some u->w.cell? ⟨b,off+j,none⟩=some u) (h1:∀u∈aV,u.oneCell'=true):
 Calls prog 221 #[.slice (some ⟨b,off,none⟩) n c] w fun e w'=>wk au 190 1 n aV w e w':=by
 obtain⟨i0,hi,hz0,fE,fD⟩:=info_parts xe;have q22:∀(w:World) (a:Option Addr) (n c n' c':Nat),(binOp .eql 239 (.slice a n c) (.slice none n' c')).run prog w=.ok (.bool a.isNone) w:=fun w a n c n' c'=>Lib.run_eql_slice_nil w _ _ a n c n' c' underlying239
 have HC:=aq hc;have HL:=aq hl;have H1:=aq h1;have HB:=aq hb;clear hc hl h1 hb;go_enter func221,ntmps221
 go_wp2_with (at_builtin;refine wpList_append_own_at _ rfl _ _ 239 rfl w.heap.size 190 i0 (.pointer none) 1 8 underlying239 hi hz0 fE fD rfl (by decide) _ _ _ rfl (World.ownsRow_made w #[] 0 (Nat.le_refl _) (Nat.zero_le _) (by simp)) ⟨b,off,none⟩ n c aV rfl (an HL) (fun j u hj=>by rw[Addr.add_lit];exact Lib.cell?_alloc_some _ (an HC j u hj)) (an H1) (by unfold maxLen;omega) (by omega) (by simp) ?_;intro v4 w4 dS cr ig gQ)
 have Ho:=aq dS;have Hg:=aq cr;have Ha:=aq gQ;clear dS cr ig gQ;go_wp2_with fail;go_ret;have ft:=an Ho;have qQ:=an Hg;have iV:=an Ha;rw[Nat.zero_add,nil_append]at ft;refine⟨v4,rfl,gp ft (an HB),?_,((Below.refl _ w).alloc (Nat.le_refl _) _).grown qQ (by simp) (fun k hk=>Nat.le_of_eq (Option.some.inj hk))⟩
 rcases iV with h|h
 ·exact⟨_,h,Nat.le_refl _⟩
 ·exact⟨_,h,by simp⟩
theorem sl (au:Nat) (g aU:Nat) (cur:Array Value) (n i:Nat) (xs:List Value) (w:World) (hi:i<n) (hn:n<=100) (hg:w.heap[g]? = some (.cells cur 238 (0,0))) (vH:au<=g) (uC:n<=aU) (lJ:aU<=maxLen) (gZ:cur.size=aU*3) (hx:cur.toList.take (n*3)=xs) (me:∀u∈xs,u.oneCell'=true):
 Calls prog 260 #[.slice (some ⟨g,0,none⟩) n aU,.int .i64 i,.int .i64 ((i:Int)+1)] w fun e w'=>de au 238 3 (.slice (some ⟨g,0,none⟩) n aU) (n-1) (xs.take (i*3)++xs.drop ((i+1)*3)) w e w':=by
 obtain⟨i0,Dv,hz0,fE,fD⟩:=info_parts xc;have jL:xs.length=n*3:=by rw[<-hx,length_take,Array.length_toList];omega
 obtain⟨aV,hnews⟩:∃aV,aV=xs.drop ((i+1)*3):=⟨_,rfl⟩;have mS:aV.length=(n-(i+1))*3:=by rw[hnews,length_drop,jL];try omega
 obtain⟨A,hA,vz⟩:∃A:Addr,(if aU=i+1 then some (⟨g,0,none⟩:Addr)else some ⟨g,(i+1)*3,none⟩)=some A/\(∀t u,aV[t]? = some u->w.drew.cell? (A.add t)=some u):=by
  by_cases h:aU=i+1
  ·refine⟨⟨g,0,none⟩,by simp[h],fun t u hu=>?_⟩;have h0:aV.length=0:=by rw[mS];omega
   rw[List.length_eq_zero_iff.1 h0]at hu;simp at hu
  ·refine⟨⟨g,(i+1)*3,none⟩,by simp[h],fun t u hu=>?_⟩;rw[Addr.add_lit];rw[hnews,getElem?_drop]at hu;exact dB (w:=w.drew) hg hx hu
 obtain⟨r1,lu⟩:∃r1,r1=cur.toList.take (i*3)++aV++cur.toList.drop (i*3+aV.length):=⟨_,rfl⟩;obtain⟨zs,Dh⟩:=aa ((Builtin.zeroCells (Value.cells (.agg #[.string ⟨#[]⟩,.string ⟨#[]⟩,.int .i64 0])) 1).toList);have Ri:zs.length=3:=by rw[<-Dh,Array.length_toList,size_zeroCells];simp[Value.cells]
 have IB:∀u∈zs,u.oneCell'=true:=by rw[<-Dh];intro u hu;simp[Builtin.zeroCells,Value.cells,range_succ]at hu;rcases hu with rfl|rfl|rfl<;>rfl
 obtain⟨r2,kC⟩:∃r2,r2=r1.take ((n-1)*3)++zs++r1.drop ((n-1)*3+zs.length):=⟨_,rfl⟩
 have l1:r1.length=aU*3:=by rw[lu];simp only[length_append,length_take,length_drop,Array.length_toList,mS,gZ];omega
 have l2:r2.length=aU*3:=by rw[kC];simp only[length_append,length_take,length_drop,l1,Ri];omega
 have q3:r2.take ((n-1)*3)=xs.take (i*3)++aV:=by
  have e0:cur.toList.take (i*3)=xs.take (i*3):=by rw[<-hx,take_take];congr 1;omega
  have l3:(xs.take (i*3)++aV).length=(n-1)*3:=by rw[length_append,length_take,mS,jL];omega
  rw[kC,append_assoc,take_append_of_le_length (by rw[length_take];omega),take_take,Nat.min_self,lu,e0,take_append_of_le_length (by omega),take_of_length_le (by omega)]
 have lX:∀ty,(Builtin.append_ #[235,235] ty #[.slice (some ⟨g,0,none⟩) i aU,.slice (some A) (n-(i+1)) (aU-(i+1))]).run prog w.drew=.ok (.slice (some ⟨g,0,none⟩) (i+(n-(i+1))) aU) (w.drew.setRow g r1.toArray):=fun ty=>by
  have h:=run_append_room (P:=prog) w.drew 235 ty 238 i0 underlying235 Dv g i aU cur hg A (n-(i+1)) (aU-(i+1)) aV (by rw[fE];omega) vz (fun u hu=>me u (mem_of_mem_drop (by rw[<-hnews];exact hu))) (by omega) (by rw[fE];omega);rw[fE]at h
  try simp only[Nat.mul_one]at h
  rw[<-lu]at h;exact h
 have hlen:i+(n-(i+1))=n-1:=by omega
 rw[hlen]at lX;have oP:(w.drew.setRow g r1.toArray).heap[g]? = some (.cells r1.toArray 238 (0,0)):=setRow_heap w.drew g cur _ 238 _ hg
 have tL:∀ty c,(Builtin.clear_ #[235] ty #[.slice (some ⟨g,(n-1)*3,none⟩) (n-(n-1)) c]).run prog (w.drew.setRow g r1.toArray)=.ok (.tuple #[]) (w.drew.setRow g r2.toArray):=fun ty c=>by have h:=kK (P:=prog) (w.drew.setRow g r1.toArray) 235 238 ty (.agg #[.string ⟨#[]⟩,.string ⟨#[]⟩,.int .i64 0]) underlying235 zeroValue238 g ((n-1)*3) (n-(n-1)) c r1.toArray 238 zs (by rw[show n-(n-1)=1 by omega];exact Dh) (by omega) oP (by rw[size_toArray,l1,Ri];omega) IB;rw[h,setRow_setRow,kC]
 obtain⟨W1,tu⟩:∃W1,W1=w.drew.setRow g r1.toArray:=⟨_,rfl⟩;obtain⟨W2,hW2⟩:∃W2,W2=w.drew.setRow g r2.toArray:=⟨_,rfl⟩;rw[<-tu]at lX;rw[<-tu,<-hW2]at tL
 have j9:∀v',v'=.slice (some ⟨g,0,none⟩) (n-1) aU->de au 238 3 (.slice (some ⟨g,0,none⟩) n aU) (n-1) (xs.take (i*3)++xs.drop ((i+1)*3)) w (.returned v') W2:=by rintro v' rfl;rw[<-hnews];refine⟨_,rfl,⟨by rw[<-q3,length_take,l2];omega,.inr ⟨g,aU,r2.toArray,rfl,vH,by rw[hW2];exact setRow_heap w.drew g cur _ 238 _ hg,by omega,lJ,by simp[l2],by rw[show(n-1)*3=(n-1)*3 by omega];exact q3⟩⟩,⟨by rw[hW2];rfl,by rw[hW2];rfl,by rw[hW2];rfl,by rw[hW2];simp,fun x hx pF=>by rw[hW2];exact setRow_other w.drew g x _ (fun e=>pF (by rw[e];rfl))⟩,.inl rfl⟩
 have Hf:=aq j9;have RY:aU<=9223372036854775807:=by unfold maxLen at lJ;omega
 have gY:i<=n:=by omega
 have hQ:(i:Int)<(n:Int):=by omega
 have iD:¬((i:Int)=(i:Int)+1):=by omega
 have Wz:i<=aU:=by omega
 have dJ:(0:Int)<=(i:Int)+1:=by omega
 have UO:((i:Int)+1).toNat=i+1:=by omega
 have qR:(i:Int)+1<=(n:Int):=by omega
 have WL:(i:Int)+1<=(aU:Int):=by omega
 have WK:¬(aU=n-1):=by omega
 have I2:n-1<=n:=by omega
 have hb9:n-1<=aU:=by omega
 have mixed:=oG;clear j9 q3 lu kC tu hW2 oP hg hx me gZ jL mS lJ vz hnews l1 l2 Dh Ri IB hlen;go_enter func260,ntmps260;go_wp2_with fail
 go_region_law_o (refine cH rfl _ _ 235 235 rfl (.slice (some ⟨g,0,none⟩) i aU) (.slice (some A) (n-(i+1)) (aU-(i+1))) (by simp[Act.eval,Act.put]) (by simp[Act.eval,Act.put]) (lX _) ?_)
 go_wp2
 go_ret;exact an Hf _ rfl
theorem oU (au:Nat) (v:Value) (n i:Nat) (xs:List Value) (w:World) (ho:w.ownsRow au 238 3 v n xs) (hi:i<n) (hn:n<=100) (me:∀u∈xs,u.oneCell'=true):
 Calls prog 260 #[v,.int .i64 i,.int .i64 ((i:Int)+1)] w fun e w'=>de au 238 3 v (n-1) (xs.take (i*3)++xs.drop ((i+1)*3)) w e w':=by
 rcases ho.2 with⟨rfl,rfl⟩|⟨g,aU,cur,rfl,vH,hg,uC,lJ,gZ,hx⟩
 ·omega
 ·exact sl au g aU cur n i xs w hi hn hg vH uC lJ (by omega) (by rw[<-hx,show n*3=n*3 by omega]) me
theorem Jh (au:Nat) (g aU:Nat) (cur:Array Value) (n i:Nat) (xs:List Value) (w:World) (hi:i<n) (hn:n<=100) (hg:w.heap[g]? = some (.cells cur 190 (0,0))) (vH:au<=g) (uC:n<=aU) (lJ:aU<=maxLen) (gZ:cur.size=aU) (hx:cur.toList.take (n)=xs) (me:∀u∈xs,u.oneCell'=true):
 Calls prog 290 #[.slice (some ⟨g,0,none⟩) n aU,.int .i64 i,.int .i64 ((i:Int)+1)] w fun e w'=>de au 190 1 (.slice (some ⟨g,0,none⟩) n aU) (n-1) (xs.take (i)++xs.drop (i+1)) w e w':=by
 obtain⟨i0,Dv,hz0,fE,fD⟩:=info_parts xe;have jL:xs.length=n:=by rw[<-hx,length_take,Array.length_toList];omega
 obtain⟨aV,hnews⟩:∃aV,aV=xs.drop (i+1):=⟨_,rfl⟩;have mS:aV.length=(n-(i+1)):=by rw[hnews,length_drop,jL];try omega
 obtain⟨A,hA,vz⟩:∃A:Addr,(if aU=i+1 then some (⟨g,0,none⟩:Addr)else some ⟨g,(i+1),none⟩)=some A/\(∀t u,aV[t]? = some u->w.drew.cell? (A.add t)=some u):=by
  by_cases h:aU=i+1
  ·refine⟨⟨g,0,none⟩,by simp[h],fun t u hu=>?_⟩;have h0:aV.length=0:=by rw[mS];omega
   rw[List.length_eq_zero_iff.1 h0]at hu;simp at hu
  ·refine⟨⟨g,(i+1),none⟩,by simp[h],fun t u hu=>?_⟩;rw[Addr.add_lit];rw[hnews,getElem?_drop]at hu;exact dB (w:=w.drew) hg hx hu
 obtain⟨r1,lu⟩:∃r1,r1=cur.toList.take (i)++aV++cur.toList.drop (i+aV.length):=⟨_,rfl⟩;obtain⟨zs,Dh⟩:=aa ((Builtin.zeroCells (Value.cells (.pointer none)) 1).toList);have Ri:zs.length=1:=by rw[<-Dh,Array.length_toList,size_zeroCells];simp[Value.cells]
 have IB:∀u∈zs,u.oneCell'=true:=by rw[<-Dh];intro u hu;simp[Builtin.zeroCells,Value.cells,range_succ]at hu;subst hu;rfl
 obtain⟨r2,kC⟩:∃r2,r2=r1.take (n-1)++zs++r1.drop ((n-1)+zs.length):=⟨_,rfl⟩
 have l1:r1.length=aU:=by rw[lu];simp only[length_append,length_take,length_drop,Array.length_toList,mS,gZ];omega
 have l2:r2.length=aU:=by rw[kC];simp only[length_append,length_take,length_drop,l1,Ri];omega
 have q3:r2.take (n-1)=xs.take (i)++aV:=by
  have e0:cur.toList.take (i)=xs.take (i):=by rw[<-hx,take_take];congr 1;omega
  have l3:(xs.take (i)++aV).length=(n-1):=by rw[length_append,length_take,mS,jL];omega
  rw[kC,append_assoc,take_append_of_le_length (by rw[length_take];omega),take_take,Nat.min_self,lu,e0,take_append_of_le_length (by omega),take_of_length_le (by omega)]
 have lX:∀ty,(Builtin.append_ #[239,239] ty #[.slice (some ⟨g,0,none⟩) i aU,.slice (some A) (n-(i+1)) (aU-(i+1))]).run prog w.drew=.ok (.slice (some ⟨g,0,none⟩) (i+(n-(i+1))) aU) (w.drew.setRow g r1.toArray):=fun ty=>by
  have h:=run_append_room (P:=prog) w.drew 239 ty 190 i0 underlying239 Dv g i aU cur hg A (n-(i+1)) (aU-(i+1)) aV (by rw[fE];omega) vz (fun u hu=>me u (mem_of_mem_drop (by rw[<-hnews];exact hu))) (by omega) (by rw[fE];omega);rw[fE]at h
  try simp only[Nat.mul_one]at h
  rw[<-lu]at h;exact h
 have hlen:i+(n-(i+1))=n-1:=by omega
 rw[hlen]at lX;have oP:(w.drew.setRow g r1.toArray).heap[g]? = some (.cells r1.toArray 190 (0,0)):=setRow_heap w.drew g cur _ 190 _ hg
 have tL:∀ty c,(Builtin.clear_ #[239] ty #[.slice (some ⟨g,(n-1),none⟩) (n-(n-1)) c]).run prog (w.drew.setRow g r1.toArray)=.ok (.tuple #[]) (w.drew.setRow g r2.toArray):=fun ty c=>by have h:=kK (P:=prog) (w.drew.setRow g r1.toArray) 239 190 ty (.pointer none) underlying239 zeroValue190 g (n-1) (n-(n-1)) c r1.toArray 190 zs (by rw[show n-(n-1)=1 by omega];exact Dh) (by omega) oP (by rw[size_toArray,l1,Ri];omega) IB;rw[h,setRow_setRow,kC]
 obtain⟨W1,tu⟩:∃W1,W1=w.drew.setRow g r1.toArray:=⟨_,rfl⟩;obtain⟨W2,hW2⟩:∃W2,W2=w.drew.setRow g r2.toArray:=⟨_,rfl⟩;rw[<-tu]at lX;rw[<-tu,<-hW2]at tL
 have j9:∀v',v'=.slice (some ⟨g,0,none⟩) (n-1) aU->de au 190 1 (.slice (some ⟨g,0,none⟩) n aU) (n-1) (xs.take (i)++xs.drop (i+1)) w (.returned v') W2:=by rintro v' rfl;rw[<-hnews];refine⟨_,rfl,⟨by rw[<-q3,length_take,l2];omega,.inr ⟨g,aU,r2.toArray,rfl,vH,by rw[hW2];exact setRow_heap w.drew g cur _ 190 _ hg,by omega,lJ,by simp[l2],by rw[show(n-1)*1=(n-1)by omega];exact q3⟩⟩,⟨by rw[hW2];rfl,by rw[hW2];rfl,by rw[hW2];rfl,by rw[hW2];simp,fun x hx pF=>by rw[hW2];exact setRow_other w.drew g x _ (fun e=>pF (by rw[e];rfl))⟩,.inl rfl⟩
 have Hf:=aq j9;have RY:aU<=9223372036854775807:=by unfold maxLen at lJ;omega
 have gY:i<=n:=by omega
 have hQ:(i:Int)<(n:Int):=by omega
 have iD:¬((i:Int)=(i:Int)+1):=by omega
 have Wz:i<=aU:=by omega
 have dJ:(0:Int)<=(i:Int)+1:=by omega
 have UO:((i:Int)+1).toNat=i+1:=by omega
 have qR:(i:Int)+1<=(n:Int):=by omega
 have WL:(i:Int)+1<=(aU:Int):=by omega
 have WK:¬(aU=n-1):=by omega
 have I2:n-1<=n:=by omega
 have hb9:n-1<=aU:=by omega
 have mixed:=oG;clear j9 q3 lu kC tu hW2 oP hg hx me gZ jL mS lJ vz hnews l1 l2 Dh Ri IB hlen;go_enter func290,ntmps290;go_wp2_with fail
 go_region_law_o (refine cH rfl _ _ 239 239 rfl (.slice (some ⟨g,0,none⟩) i aU) (.slice (some A) (n-(i+1)) (aU-(i+1))) (by simp[Act.eval,Act.put]) (by simp[Act.eval,Act.put]) (lX _) ?_)
 go_wp2
 go_ret;exact an Hf _ rfl
theorem CI (au:Nat) (v:Value) (n i:Nat) (xs:List Value) (w:World) (ho:w.ownsRow au 190 1 v n xs) (hi:i<n) (hn:n<=100) (me:∀u∈xs,u.oneCell'=true):
 Calls prog 290 #[v,.int .i64 i,.int .i64 ((i:Int)+1)] w fun e w'=>de au 190 1 v (n-1) (xs.take (i)++xs.drop (i+1)) w e w':=by
 rcases ho.2 with⟨rfl,rfl⟩|⟨g,aU,cur,rfl,vH,hg,uC,lJ,gZ,hx⟩
 ·omega
 ·exact Jh au g aU cur n i xs w hi hn hg vH uC lJ (by omega) (by rw[<-hx,show n*1=n by omega]) me
section
theorem aZ {w:World} {au:Nat} {e:TypeId} {k:Nat} {v:Value} {n:Nat} {xs:List Value} (h:w.ownsRow au e k v n xs) (hn:0<n):∃g aU,v=.slice (some ⟨g,0,none⟩) n aU/\n<=aU/\aU<=9223372036854775807:=by
 rcases h.2 with⟨_,rfl⟩|⟨g,aU,cur,rfl,_,_,hc,hm,_⟩
 ·omega
 ·exact⟨g,aU,rfl,hc,by unfold maxLen at hm;omega⟩
theorem vk (aM:List bQ):∀u∈aM.map (fun y=>bK y.b),u.oneCell'=true:=by
 intro u hu;obtain⟨x,_,rfl⟩:=mem_map.1 hu;rfl
theorem fI {w:World} {au g n aU:Nat} {aM:List bQ} (h:w.ownsRow au 190 1 (.slice (some ⟨g,0,none⟩) n aU) n (aM.map fun y=>bK y.b)) {j:Nat} {k:bQ} (hk:aM[j]? = some k):w.cell? ⟨g,j,none⟩=some (.pointer (some ⟨k.b,0,none⟩)):=by
 have hl:aM.length=n:=by have:=h.1;simpa using this
 have hj:j<aM.length:=(List.getElem?_eq_some_iff.1 hk).1;rw[h.cellAt j (by omega),getElem?_map,hk];rfl
theorem iT {w:World} {au g n aU:Nat} {aQ:List aG} (h:w.ownsRow au 238 3 (.slice (some ⟨g,0,none⟩) n aU) n (flat aQ)) {j:Nat} {x:aG} (hk:aQ[j]? = some x):w.cell? ⟨g,j*3,none⟩=some (.string x.az)/\w.cell? ⟨g,j*3+1,none⟩=some (.string x.name)/\w.cell? ⟨g,j*3+2,none⟩=some (.int .i64 x.aN):=by
 have hl:aQ.length*3=n*3:=by rw[<-h.1,dU]
 obtain⟨hj,rfl⟩:=List.getElem?_eq_some_iff.1 hk;have h1:=flat_get aQ j hj;exact⟨by rw[h.cellAt _ (by omega)];exact h1.1,by rw[h.cellAt _ (by omega)];exact h1.2.1,by rw[h.cellAt _ (by omega)];exact h1.2.2⟩
section
variable {au:Nat} {w0 w:World} {K0:Nat->Nat}
theorem aw.low {rs:List aI} (H:aw au w0 K0 w rs) {b:Nat} {t:TypeId} {vs:List Value} (hm:aI.cell b t vs∈rs):au<=w.heap.size:=by
 have:=(H.sat _ hm).range b (by show 0<one b b;rw[bx];decide);omega
def sx (au:Nat) (w0:World) (K0:Nat->Nat) (n:Nat) (f:Value->List aI) (e:Ending) (w':World):Prop:=
 ∃g aU,e=.returned (.slice (some ⟨g,0,none⟩) n aU)/\n<=aU/\aU<=9223372036854775807/\aw au w0 K0 w' (f (.slice (some ⟨g,0,none⟩) n aU))
theorem vB (l1:List aI) {v:Value} {a c:List aG} {l2:List aI} {vb vc:Nat} {m:aG} (H:aw au w0 K0 w (.cell vb 238 (cellsOf m)::(l1++aO v (a++c)::l2))) {i n:Nat} (hi:a.length=i) (hn:(a++c).length=n) (hl:n<=100):
 Calls prog 219 #[v,.int .i64 i,.slice (some ⟨vb,0,none⟩) 1 vc] w fun e w'=>sx au w0 K0 (n+1) (fun v'=>l1++aO v' (a++m::c)::l2) e w':=by
 have hr:w.ownsRow au 238 3 v n (flat (a++c)):=by rw[<-hn];exact H.rowAt (by simp[aO])
 have dr:v.ownBlock≠some vb:=fun e=>by have h1:=H.uniq vb;simp only[ax,ay,aO,bM,dD,bx,iX e]at h1;omega
 have gY:i<=n:=by rw[<-hn,<-hi,length_append];omega
 refine(oK au v n i (flat (a++c)) (cellsOf m) vb vc w hr gY hl (H.low (b:=vb) (t:=238) (vs:=cellsOf m) (by simp)) (fM _) (H.sat (.cell vb 238 (cellsOf m)) (by simp)).2 rfl (fun u hu=>fM [m] u (by simpa[flat]using hu)) dr).mono ?_;rintro e w' ⟨v',rfl,uA,hg,ha⟩;obtain⟨g,aU,rfl,h1,h2⟩:=aZ uA (by omega);refine⟨g,aU,rfl,h1,h2,?_⟩
 have e1:(flat (a++c)).take (i*3)++cellsOf m++(flat (a++c)).drop (i*3)=flat (a++m::c):=by rw[mT,mU,<-hi,take_left,drop_left,eW,show flat (m::c)=cellsOf m++flat c from rfl,append_assoc]
 rw[e1]at uA;have h3:=(H.aD []).grow l1 (v:=v) hg uA ha;have e2:n+1=(a++m::c).length:=by rw[<-hn];simp;omega
 show aw au w0 K0 w' (l1++aI.row _ 238 3 (a++m::c).length (flat (a++m::c))::l2);rw[<-e2];exact h3
theorem EV (l1:List aI) {v:Value} {a c:List bQ} {l2:List aI} {vb vc:Nat} {m:bQ} (H:aw au w0 K0 w (.cell vb 190 [bK m.b]::(l1++bg v (a++c)::l2))) {i n:Nat} (hi:a.length=i) (hn:(a++c).length=n) (hl:n<=100):
 Calls prog 220 #[v,.int .i64 i,.slice (some ⟨vb,0,none⟩) 1 vc] w fun e w'=>sx au w0 K0 (n+1) (fun v'=>l1++bg v' (a++m::c)::l2) e w':=by
 have hr:w.ownsRow au 190 1 v n ((a++c).map fun y=>bK y.b):=by rw[<-hn];exact H.rowAt (by simp[bg])
 have dr:v.ownBlock≠some vb:=fun e=>by have h1:=H.uniq vb;simp only[ax,ay,bg,bM,dD,bx,iX e]at h1;omega
 have gY:i<=n:=by rw[<-hn,<-hi,length_append];omega
 refine(Cw au v n i _ [bK m.b] vb vc w hr gY hl (H.low (b:=vb) (t:=190) (vs:=[bK m.b]) (by simp)) (vk _) (H.sat (.cell vb 190 [bK m.b]) (by simp)).2 rfl (fun u hu=>by simp at hu;subst hu;rfl) dr).mono ?_;rintro e w' ⟨v',rfl,uA,hg,ha⟩;obtain⟨g,aU,rfl,h1,h2⟩:=aZ uA (by omega);refine⟨g,aU,rfl,h1,h2,?_⟩
 have e1:((a++c).map fun y=>bK y.b).take i++[bK m.b]++((a++c).map fun y=>bK y.b).drop i=(a++m::c).map fun y=>bK y.b:=by rw[<-map_take,<-map_drop,<-hi,take_left,drop_left];simp
 rw[e1]at uA;have h3:=(H.aD []).grow l1 (v:=v) hg uA ha;have e2:n+1=(a++m::c).length:=by rw[<-hn];simp;omega
 show aw au w0 K0 w' (l1++aI.row _ 190 1 (a++m::c).length ((a++m::c).map fun y=>bK y.b)::l2);rw[<-e2];exact h3
theorem yp {rs:List aI} (H:aw au w0 K0 w rs) {g aU n:Nat} {a m c:List aG} (hm:aO (.slice (some ⟨g,0,none⟩) n aU) (a++m++c)∈rs) (hb:au<=w.heap.size) {o k cc:Nat} (hn:(a++m++c).length=n) (ho:a.length*3=o) (hk:m.length=k) (jd:0<k) (hl:k<=100):
 Calls prog 165 #[.slice (some ⟨g,o,none⟩) k cc] w fun e w'=>sx au w0 K0 k (fun v'=>aO v' m::rs) e w':=by
 have hr:w.ownsRow au 238 3 (.slice (some ⟨g,0,none⟩) n aU) n (flat (a++m++c)):=by have:=H.rowAt hm;rwa [hn]at this
 refine(vR au g o k cc (flat m) w (by rw[dU,hk]) hl hb (fun j u hu=>?_) (fM _)).mono ?_
 ·have hj:=(List.getElem?_eq_some_iff.1 hu).1;rw[dU]at hj;rw[hr.cellAt (o+j) (by rw[<-hn,<-ho];simp only[length_append];omega),eW,eW,append_assoc,getElem?_append_right (by rw[dU];omega),getElem?_append_left (by rw[dU,dU];omega),dU,<-ho,Nat.add_sub_cancel_left];exact hu
 ·rintro e w' ⟨v',rfl,uA,ha,uG⟩;obtain⟨g',cap',rfl,h1,h2⟩:=aZ uA (by omega);refine⟨g',cap',rfl,h1,h2,?_⟩
  show aw au w0 K0 w' (aI.row _ 238 3 m.length (flat m)::rs);rw[hk];exact H.newRow uG uA ha
theorem yo {rs:List aI} (H:aw au w0 K0 w rs) {g aU n:Nat} {a m c:List bQ} (hm:bg (.slice (some ⟨g,0,none⟩) n aU) (a++m++c)∈rs) (hb:au<=w.heap.size) {o k cc:Nat} (hn:(a++m++c).length=n) (ho:a.length=o) (hk:m.length=k) (jd:0<k) (hl:k<=100):
 Calls prog 221 #[.slice (some ⟨g,o,none⟩) k cc] w fun e w'=>sx au w0 K0 k (fun v'=>bg v' m::rs) e w':=by
 have hr:w.ownsRow au 190 1 (.slice (some ⟨g,0,none⟩) n aU) n ((a++m++c).map fun y=>bK y.b):=by have:=H.rowAt hm;rwa [hn]at this
 refine(FI au g o k cc (m.map fun y=>bK y.b) w (by rw[length_map,hk,Nat.mul_one]) hl hb (fun j u hu=>?_) (vk _)).mono ?_
 ·have hj:=(List.getElem?_eq_some_iff.1 hu).1;rw[length_map]at hj;rw[hr.cellAt (o+j) (by rw[<-hn,<-ho];simp only[length_append];omega),map_append,map_append,append_assoc,getElem?_append_right (by rw[length_map];omega),getElem?_append_left (by rw[length_map,length_map];omega),length_map,<-ho,Nat.add_sub_cancel_left];exact hu
 ·rintro e w' ⟨v',rfl,uA,ha,uG⟩;obtain⟨g',cap',rfl,h1,h2⟩:=aZ uA (by omega);refine⟨g',cap',rfl,h1,h2,?_⟩
  show aw au w0 K0 w' (aI.row _ 190 1 m.length (m.map fun y=>bK y.b)::rs);rw[hk];exact H.newRow uG uA ha
theorem qB (l1:List aI) {g aU n:Nat} {a c:List aG} {m:aG} {l2:List aI} (H:aw au w0 K0 w (l1++aO (.slice (some ⟨g,0,none⟩) n aU) (a++m::c)::l2)) {i:Nat} (hi:a.length=i) (hn:(a++m::c).length=n) (hl:n<=100):
 Calls prog 260 #[.slice (some ⟨g,0,none⟩) n aU,.int .i64 i,.int .i64 ((i:Int)+1)] w fun e w'=>sx au w0 K0 (n-1) (fun v'=>l1++aO v' (a++c)::l2) e w':=by
 have hr:w.ownsRow au 238 3 (.slice (some ⟨g,0,none⟩) n aU) n (flat (a++m::c)):=by have:=H.rowAt (v:=.slice (some ⟨g,0,none⟩) n aU) (e:=238) (k:=3) (n:=(a++m::c).length) (xs:=flat (a++m::c)) (by simp[aO]);rwa [hn]at this
 have gY:i<n:=by rw[<-hn,<-hi,length_append,length_cons];omega
 refine(oU au _ n i _ w hr gY hl (fM _)).mono ?_;rintro e w' ⟨v',rfl,uA,hg,ha⟩
 have e1:(flat (a++m::c)).take (i*3)++(flat (a++m::c)).drop ((i+1)*3)=flat (a++c):=by rw[mT,mU,<-hi,take_left,eW];congr 2;rw[show a++m::c=(a++[m])++c by simp,drop_append_of_le_length (by simp),drop_eq_nil_of_le (by simp),nil_append]
 rw[e1]at uA
 have hblk:∃x,v'.ownBlock=some x:=by
  rcases ha with ha|⟨x,ha,_⟩
  ·exact⟨g,ha⟩
  ·exact⟨x,ha⟩
 obtain⟨g',cap',rfl,h1,h2⟩:∃g' cap',v'=.slice (some ⟨g',0,none⟩) (n-1) cap'/\n-1<=cap'/\cap'<=9223372036854775807:=by
  rcases uA.2 with⟨rfl,_⟩|⟨g',cap',cur,rfl,_,_,h1,h2,_⟩
  ·obtain⟨x,hx⟩:=hblk;cases hx
  ·exact⟨g',cap',rfl,h1,by unfold maxLen at h2;omega⟩
 refine⟨g',cap',rfl,h1,h2,?_⟩;have h3:=H.grow l1 hg uA ha;have e2:n-1=(a++c).length:=by rw[<-hn];simp only[length_append,length_cons];omega
 show aw au w0 K0 w' (l1++aI.row _ 238 3 (a++c).length (flat (a++c))::l2);rw[<-e2];exact h3
theorem EX (l1:List aI) {g aU n:Nat} {a c:List bQ} {m:bQ} {l2:List aI} (H:aw au w0 K0 w (l1++bg (.slice (some ⟨g,0,none⟩) n aU) (a++m::c)::l2)) {i:Nat} (hi:a.length=i) (hn:(a++m::c).length=n) (hl:n<=100):
 Calls prog 290 #[.slice (some ⟨g,0,none⟩) n aU,.int .i64 i,.int .i64 ((i:Int)+1)] w fun e w'=>sx au w0 K0 (n-1) (fun v'=>l1++bg v' (a++c)::l2) e w':=by
 have hr:w.ownsRow au 190 1 (.slice (some ⟨g,0,none⟩) n aU) n ((a++m::c).map fun y=>bK y.b):=by have:=H.rowAt (v:=.slice (some ⟨g,0,none⟩) n aU) (e:=190) (k:=1) (n:=(a++m::c).length) (xs:=(a++m::c).map fun y=>bK y.b) (by simp[bg]);rwa [hn]at this
 have gY:i<n:=by rw[<-hn,<-hi,length_append,length_cons];omega
 refine(CI au _ n i _ w hr gY hl (vk _)).mono ?_;rintro e w' ⟨v',rfl,uA,hg,ha⟩
 have e1:((a++m::c).map fun y=>bK y.b).take i++((a++m::c).map fun y=>bK y.b).drop (i+1)=(a++c).map fun y=>bK y.b:=by rw[<-map_take,<-map_drop,<-hi,take_left,map_append];congr 2;rw[show a++m::c=(a++[m])++c by simp,drop_append_of_le_length (by simp),drop_eq_nil_of_le (by simp),nil_append]
 rw[e1]at uA
 have hblk:∃x,v'.ownBlock=some x:=by
  rcases ha with ha|⟨x,ha,_⟩
  ·exact⟨g,ha⟩
  ·exact⟨x,ha⟩
 obtain⟨g',cap',rfl,h1,h2⟩:∃g' cap',v'=.slice (some ⟨g',0,none⟩) (n-1) cap'/\n-1<=cap'/\cap'<=9223372036854775807:=by
  rcases uA.2 with⟨rfl,_⟩|⟨g',cap',cur,rfl,_,_,h1,h2,_⟩
  ·obtain⟨x,hx⟩:=hblk;cases hx
  ·exact⟨g',cap',rfl,h1,by unfold maxLen at h2;omega⟩
 refine⟨g',cap',rfl,h1,h2,?_⟩;have h3:=H.grow l1 hg uA ha;have e2:n-1=(a++c).length:=by rw[<-hn];simp only[length_append,length_cons];omega
 show aw au w0 K0 w' (l1++aI.row _ 190 1 (a++c).length ((a++c).map fun y=>bK y.b)::l2);rw[<-e2];exact h3
end
end
def JC (au:Nat) (w0:World) (K0:Nat->Nat) (b h:Nat) (kS lh:List aG) (b8 cq:List bQ) (c:bQ) (l2:List aI) (e:Ending) (w':World):Prop:=
 e=.returned (.tuple #[])/\∃m c1 c2 v0 v1,c.L=c1.L++m::c2.L/\Fit c1/\Fit c2/\aw au w0 K0 w' (aK b v0 v1::aO v0 (kS++m::lh)::bg v1 (b8++c1::c2::cq)::.subs h (b8++c1::c2::cq)::l2)
theorem CU {au:Nat} {w0 w:World} {K0:Nat->Nat} {b h cb hb:Nat} {L0 LB VH HB V0 V1:Value} {a1 a2 m a4:aG} {ck1 ck2 b8 cq:List bQ} {kS lh:List aG} {c:bQ} {l2:List aI} (pW:c.b=cb)
 (H:aw au w0 K0 w (aK cb L0 LB::aO L0 [a1,a2]::bg LB ck1::.subs (h-1) ck1::aK hb VH HB::aO VH [a4]::bg HB ck2::.subs (h-1) ck2::aK b V0 V1::aO V0 (kS++m::lh)::bg V1 (b8++c::⟨hb,0,[],fun _=>0⟩::cq)::.subs h (b8++cq)::l2))
 (s1:Shape h [a1,a2] ck1) (s2:Shape h [a4] ck2) (f1:∀x∈ck1,Fit x) (f2:∀x∈ck2,Fit x) (hL:c.L=inter [a1,a2,m,a4] ((ck1++ck2).map bQ.L)):
 JC au w0 K0 b h kS lh b8 cq c l2 (.returned (.tuple #[])) w:=by
 obtain⟨c1,b1,n1,L1,H1⟩:=H.shut [] (h:=h) s1 f1;obtain⟨c2,b2,n2,L2,H2⟩:=H1.shut [.sub h c1] (h:=h) s2 f2;simp only[cons_append,nil_append]at H2;refine⟨rfl,m,c1,c2,V0,V1,?_,?_,?_,?_⟩
 ·rw[hL,L1,L2,map_append]
  rcases s1 with⟨h1,rfl⟩|⟨h1,l1⟩
  ·rcases s2 with⟨h2,rfl⟩|⟨h2,l2⟩
   ·rfl
   ·omega
  ·rcases s2 with⟨h2,rfl⟩|⟨h2,l2⟩
   ·omega
   ·exact wZ [a1,a2] _ m [a4] _ (by simpa using l1) (by simpa using l2)
 ·unfold Fit;rw[n1];simp
 ·unfold Fit;rw[n2];simp
 ·have e:bg V1 (b8++c::⟨hb,0,[],fun _=>0⟩::cq)=bg V1 (b8++c1::c2::cq):=mX (by simp[b1,b2,pW]);rw[e]at H2;have H3:=((H2.front [.sub h c1,.sub h c2]).front [_,.sub h c1,.sub h c2]).front [_,_,.sub h c1,.sub h c2];simp only[cons_append,nil_append]at H3;have H4:=H3.OP [bg V1 (b8++c1::c2::cq),aO V0 (kS++m::lh),aK b V0 V1,.sub h c1] b8 cq;have H5:=H4.OP [bg V1 (b8++c1::c2::cq),aO V0 (kS++m::lh),aK b V0 V1] b8 (c2::cq);exact(H5.front [_]).front [_,_]
theorem l6 (au:Nat) (w0:World) (K0:Nat->Nat) (w:World) (b h i:Nat) (kS lh:List aG) (b8 cq:List bQ) (c:bQ) (v0 v1:Value) (l2:List aI)
 (H:aw au w0 K0 w (aK b v0 v1::aO v0 (kS++lh)::bg v1 (b8++c::cq)::.subs h (b8++c::cq)::l2))
 (Cd:kS.length=i) (ji:b8.length=i) (hl:(kS++lh).length<=50) (tm:cq.length<=40) (hc:c.c=4):
 Calls prog 171 #[.pointer (some ⟨b,0,none⟩),.int .i64 i] w fun e w'=>JC au w0 K0 b h kS lh b8 cq c l2 e w':=by
 have H1:=H.take [aK b v0 v1,aO v0 (kS++lh),bg v1 (b8++c::cq)];obtain⟨VC,ckids,u0,u1,kD,MG,gX,fQ,H2⟩:=H1.open [aK b v0 v1,aO v0 (kS++lh),bg v1 (b8++c::cq)];simp only[cons_append,nil_append]at H2;clear H H1;have r1:w.ownsRow au 190 1 v1 (b8++c::cq).length ((b8++c::cq).map fun y=>bK y.b):=H2.rowAt (by simp[bg]);have r2:w.ownsRow au 238 3 u0 VC.length (flat VC):=H2.rowAt (by simp[aO]);obtain⟨N,hN⟩:=aa ((b8++c::cq).length);have hiN:i<N:=by rw[<-hN,length_append,ji];simp
 have hN50:N<=91:=by rw[<-hN,length_append,ji];simp at hl ⊢;omega
 rw[hN]at r1;obtain⟨g1,cap1,rfl,kE,Dq⟩:=aZ r1 (by omega);rw[<-kD,hc]at r2;obtain⟨gu,capu,rfl,T0,hmu⟩:=aZ r2 (by omega);have p1:=fI r1 (j:=i) (k:=c) (by rw[<-ji];simp);have q1:w.cell? ⟨b,1,none⟩=some (.slice (some ⟨g1,0,none⟩) N cap1):=H2.cellAt (t:=241) (vs:=[v0,.slice (some ⟨g1,0,none⟩) N cap1]) (by simp[aK]) rfl;have q2:w.cell? ⟨c.b,0,none⟩=some (.slice (some ⟨gu,0,none⟩) 4 capu):=H2.cellAt (t:=241) (vs:=[.slice (some ⟨gu,0,none⟩) 4 capu,u1]) (by simp[aK]) rfl
 obtain⟨a1,a2,m,a4,hcits⟩:∃a1 a2 m a4,VC=[a1,a2,m,a4]:=by
  rw[hc]at kD
  match VC,kD with
  |[a1,a2,m,a4],_=>exact⟨a1,a2,m,a4,rfl⟩
 subst hcits;have mg:au<=w.heap.size:=H2.low (b:=b) (t:=241) (vs:=[v0,.slice (some ⟨g1,0,none⟩) N cap1]) (by simp[aK]);have e1:=yp H2 (g:=gu) (aU:=capu) (a:=[a1,a2,m]) (m:=[a4]) (c:=[]) (n:=4) (o:=9) (k:=1) (cc:=capu-3) (by simp) mg rfl rfl rfl (by omega) (by omega);have E1:=aq e1;have HN:=aq hN;have W6:=aq MG;have BW:=aq gX;have lq:=aq fQ;obtain⟨n0,oN⟩:=aa ((kS++lh).length);rw[oN]at hl;have YO:=aq oN;have Tq:=aq Cd;have rj:=aq ji;have Hl2:=aq tm;have mI:(i:Int)<(N:Int):=by omega
 have Vb:¬(capu=3):=by omega
 clear e1 H2 r1 r2 hN MG gX fQ oN Cd ji tm kD hc;go_enter func171,ntmps171;go_wp2_with fail;refine(an E1).mono ?_;rintro e w1 ⟨gh,caph,rfl,mw,hmh,H3⟩;have dJ:=H3.low (b:=b) (t:=241) (vs:=[v0,.slice (some ⟨g1,0,none⟩) N cap1]) (by simp[aK]);have H4:=aq (H3.aY dJ 241 [.slice (some ⟨gh,0,none⟩) 1 caph,.slice none 0 0]);have q1':=aq q1;clear H3 E1 p1 q1 q2 dJ;go_wp2_with fail;generalize PQ:w1.alloc (Obj.cells #[Value.slice (some ⟨gh,0,none⟩) 1 caph,Value.slice none 0 0] 241)=w2 at H4 ⊢;generalize hhb:w1.heap.size=hb at H4 ⊢;clear PQ hhb q1'
 have h4:=an H4;have q0:w2.cell? ⟨b,0,none⟩=some v0:=h4.cellAt (t:=241) (vs:=[v0,.slice (some ⟨g1,0,none⟩) N cap1]) (by simp[aK]) rfl;have q2:w2.cell? ⟨c.b,0,none⟩=some (.slice (some ⟨gu,0,none⟩) 4 capu):=h4.cellAt (t:=241) (vs:=[.slice (some ⟨gu,0,none⟩) 4 capu,u1]) (by simp[aK]) rfl;have r2:w2.ownsRow au 238 3 (.slice (some ⟨gu,0,none⟩) 4 capu) 4 (flat [a1,a2,m,a4]):=h4.rowAt (by simp[aO]);obtain⟨s1,s2,s3⟩:=iT r2 (j:=2) (x:=m) rfl
 have aed:c.b≠b:=fun e=>by have h5:=h4.uniq b;simp only[ax,aK,aO,bg,bM,dD,e,bx]at h5;omega
 have aec:gu≠b:=fun e=>by have h5:=h4.uniq b;have h6:eR (.slice (some ⟨gu,0,none⟩) 4 capu) b=1:=iX (by rw[<-e];rfl);simp only[ax,aK,aO,bg,bM,dD,bx,h6]at h5;omega
 have oQ:∀o,(w2.alloc o).cell? ⟨b,0,none⟩=some v0:=fun o=>Lib.cell?_alloc_some _ q0
 clear r2 h4
 have e2:∀wx,aw au w0 K0 wx (.cell w2.heap.size 238 (cellsOf m)::([.cell hb 241 [.slice (some ⟨gh,0,none⟩) 1 caph,.slice none 0 0],aO (.slice (some ⟨gh,0,none⟩) 1 caph) [a4],aK b v0 (.slice (some ⟨g1,0,none⟩) N cap1)]++aO v0 (kS++lh)::(bg (.slice (some ⟨g1,0,none⟩) N cap1) (b8++c::cq)::aK c.b (.slice (some ⟨gu,0,none⟩) 4 capu) u1::aO (.slice (some ⟨gu,0,none⟩) 4 capu) [a1,a2,m,a4]::bg u1 ckids::.subs (h-1) ckids::.subs h (b8++cq)::l2)))->
  Calls prog 219 #[v0,.int .i64 i,.slice (some ⟨w2.heap.size,0,none⟩) 1 1] wx fun e w'=>sx au w0 K0 (n0+1) _ e w':=fun wx hx=>vB _ hx (an Tq) (an YO) (by omega)
 have E2:=aq e2;have tt:au<=w2.heap.size:=(an H4).low (b:=b) (t:=241) (vs:=[v0,.slice (some ⟨g1,0,none⟩) N cap1]) (by simp[aK]);have Hm:Hid (aw au w0 K0 (w2.alloc (.cells #[Value.string m.az,Value.string m.name,Value.int .i64 m.aN] 238)) (.cell w2.heap.size 238 (cellsOf m)::_)):=(an H4).aY tt 238 (cellsOf m);clear e2
 go_cut []from 7 (fun wc=>Hid (∃g3 tz,n0+1<=tz/\aw au w0 K0 wc ([.cell hb 241 [.slice (some ⟨gh,0,none⟩) 1 caph,.slice none 0 0],aO (.slice (some ⟨gh,0,none⟩) 1 caph) [a4]]++aK b (.slice (some ⟨g3,0,none⟩) (n0+1) tz) (.slice (some ⟨g1,0,none⟩) N cap1)::aO (.slice (some ⟨g3,0,none⟩) (n0+1) tz) (kS++m::lh)::bg (.slice (some ⟨g1,0,none⟩) N cap1) (b8++c::cq)::aK c.b (.slice (some ⟨gu,0,none⟩) 4 capu) u1::aO (.slice (some ⟨gu,0,none⟩) 4 capu) [a1,a2,m,a4]::bg u1 ckids::.subs (h-1) ckids::.subs h (b8++cq)::l2)))
 case first=>
  go_region_with ((go_at_call 219;refine(an E2 _ ?_).mono ?_;exact(an Hm).drew;rintro e w3 ⟨g3,tz,rfl,hc3',PU,H5⟩;have k0:w3.cell? ⟨b,0,none⟩=some v0:=H5.cellAt (t:=241) (vs:=[v0,.slice (some ⟨g1,0,none⟩) N cap1]) (by simp[aK]) rfl;have kf:w3.frozen? ⟨b,0,none⟩=false:=H5.frozenAt (t:=241) (vs:=[v0,.slice (some ⟨g1,0,none⟩) N cap1]) (by simp[aK]) 0;have H5':=aq H5;clear H5))
  all_goals (go_wp2_with fail;go_meet;exact⟨_,_,hc3',(an H5').store [.cell hb 241 [.slice (some ⟨gh,0,none⟩) 1 caph,.slice none 0 0],aO (.slice (some ⟨gh,0,none⟩) 1 caph) [a4]] 0 _ _ rfl⟩)
 case rest=>
 obtain⟨g3,tz,hcp3,H6⟩:=an hcut;simp only[cons_append,nil_append]at H6;clear hcut E2 Hm H4 q0 q2 s1 s2 s3 aed aec oQ tt;have q1:wc.cell? ⟨b,1,none⟩=some (.slice (some ⟨g1,0,none⟩) N cap1):=H6.cellAt (t:=241) (vs:=[.slice (some ⟨g3,0,none⟩) (n0+1) tz,.slice (some ⟨g1,0,none⟩) N cap1]) (by simp[aK]) rfl;have tt:au<=wc.heap.size:=H6.low (b:=hb) (t:=241) (vs:=[.slice (some ⟨gh,0,none⟩) 1 caph,.slice none 0 0]) (by simp);have e3:=EV [.cell hb 241 [.slice (some ⟨gh,0,none⟩) 1 caph,.slice none 0 0],aO (.slice (some ⟨gh,0,none⟩) 1 caph) [a4],aK b (.slice (some ⟨g3,0,none⟩) (n0+1) tz) (.slice (some ⟨g1,0,none⟩) N cap1),aO (.slice (some ⟨g3,0,none⟩) (n0+1) tz) (kS++m::lh)] (vc:=1) (a:=b8++[c]) (c:=cq) (m:=⟨hb,0,[],fun _=>0⟩) (i:=i+1) (n:=N) (by have:=H6.aY tt 190 [bK hb];simpa using this) (by have:=an rj;simp;omega) (by have:=an HN;simp at this ⊢;omega) (by omega)
 rw[show((i+1:Nat):Int)=(i:Int)+1 from by omega]at e3;have E3:=aq e3;clear e3 H6;go_wp2_with fail;refine(an E3).mono ?_;rintro e w4 ⟨g4,cap4,rfl,WJ,hm4,H7⟩;simp only[cons_append,nil_append,append_assoc]at H7;have k1:w4.cell? ⟨b,1,none⟩=some (.slice (some ⟨g1,0,none⟩) N cap1):=H7.cellAt (t:=241) (vs:=[.slice (some ⟨g3,0,none⟩) (n0+1) tz,.slice (some ⟨g1,0,none⟩) N cap1]) (by simp[aK]) rfl;have kf:w4.frozen? ⟨b,1,none⟩=false:=H7.frozenAt (t:=241) (vs:=[.slice (some ⟨g3,0,none⟩) (n0+1) tz,.slice (some ⟨g1,0,none⟩) N cap1]) (by simp[aK]) 1
 have k2:w4.cell? ⟨c.b,0,none⟩=some (.slice (some ⟨gu,0,none⟩) 4 capu):=H7.cellAt (t:=241) (vs:=[.slice (some ⟨gu,0,none⟩) 4 capu,u1]) (by simp[aK]) rfl;have H8:=H7.store [.cell hb 241 [.slice (some ⟨gh,0,none⟩) 1 caph,.slice none 0 0],aO (.slice (some ⟨gh,0,none⟩) 1 caph) [a4]] 1 (.slice (some ⟨g4,0,none⟩) (N+1) cap4) _ rfl;simp only[cons_append,nil_append,set_cons_succ,set_cons_zero]at H8;have e4:=yp H8 (g:=gu) (aU:=capu) (a:=[]) (m:=[a1,a2]) (c:=[m,a4]) (n:=4) (o:=0) (k:=2) (cc:=capu) (by simp) (H8.low (b:=hb) (t:=241) (vs:=[.slice (some ⟨gh,0,none⟩) 1 caph,.slice none 0 0]) (by simp)) rfl rfl rfl (by omega) (by omega)
 have E4:=aq e4;clear e4 H8 H7 E3 q1;go_wp2_with fail;refine(an E4).mono ?_;rintro e w5 ⟨g5,cap5,rfl,hc5,hm5,H9⟩;have k3:w5.cell? ⟨c.b,0,none⟩=some (.slice (some ⟨gu,0,none⟩) 4 capu):=H9.cellAt (t:=241) (vs:=[.slice (some ⟨gu,0,none⟩) 4 capu,u1]) (by simp[aK]) rfl;have kf3:w5.frozen? ⟨c.b,0,none⟩=false:=H9.frozenAt (t:=241) (vs:=[.slice (some ⟨gu,0,none⟩) 4 capu,u1]) (by simp[aK]) 0;have JP:=H9.store [aO (.slice (some ⟨g5,0,none⟩) 2 cap5) [a1,a2],.cell hb 241 [.slice (some ⟨gh,0,none⟩) 1 caph,.slice none 0 0],aO (.slice (some ⟨gh,0,none⟩) 1 caph) [a4],aK b (.slice (some ⟨g3,0,none⟩) (n0+1) tz) (.slice (some ⟨g4,0,none⟩) (N+1) cap4),aO (.slice (some ⟨g3,0,none⟩) (n0+1) tz) (kS++m::lh),bg (.slice (some ⟨g4,0,none⟩) (N+1) cap4) (b8++c::⟨hb,0,[],fun _=>0⟩::cq)] 0 (.slice (some ⟨g5,0,none⟩) 2 cap5) _ rfl
 simp only[cons_append,nil_append,set_cons_succ,set_cons_zero]at JP;have k4:=JP.cellAt (b:=c.b) (t:=241) (vs:=[.slice (some ⟨g5,0,none⟩) 2 cap5,u1]) (by simp) (j:=1) (v:=u1) rfl;have r4:(w5.setCell ⟨c.b,0,none⟩ (.slice (some ⟨g5,0,none⟩) 2 cap5)).ownsRow au 190 1 u1 ckids.length (ckids.map fun y=>bK y.b):=JP.rowAt (by simp[bg]);have wH:ckids.length<=100:=by rcases an BW with⟨_,h0⟩|⟨_,h0⟩;rw[h0];simp;rw[h0];simp
 have e5:=fj c.b v0 u1 ckids.length _ k4 au _ r4 wH;have E5:=aq e5;have Hck:=aq wH;clear E4 e5 k4 wH k1 kf k2 H9
 rcases an BW with⟨h0,jd⟩|⟨h0,jd⟩
 ·subst jd;have Xh:=aq JP;clear JP r4;go_wp2_with fail;refine(an E5).mono ?_;rintro e w6 ⟨rfl,rfl⟩;simp only[length_nil,decide_true];go_wp2_with fail
  go_end0
  refine CU (hb:=hb) (cb:=c.b) rfl (L0:=.slice (some ⟨g5,0,none⟩) 2 cap5) (LB:=u1) (VH:=.slice (some ⟨gh,0,none⟩) 1 caph) (HB:=.slice none 0 0) (V0:=.slice (some ⟨g3,0,none⟩) (n0+1) tz) (V1:=.slice (some ⟨g4,0,none⟩) (N+1) cap4) (a1:=a1) (a2:=a2) (m:=m) (a4:=a4) (ck1:=[]) (ck2:=[]) ((an Xh).conv (fun x=>?_) (fun r hr=>?_)) (.inl ⟨h0,rfl⟩) (.inl ⟨h0,rfl⟩) (by simp) (by simp) (an W6)
  ·simp only[ax,aK,aO,bg,bM,dD,eV,dI,pg];have:eR (.slice none 0 0) x=0:=rfl;omega
  ·have hs:=(an Xh).sat;simp only[mem_cons]at hr
   rcases hr with rfl|rfl|rfl|rfl|rfl|rfl|rfl|rfl|rfl|rfl|rfl|rfl|hr
   ·exact hs _ (by simp[aK])
   ·exact hs _ (by simp)
   ·exact hs _ (by simp)
   ·exact hs _ (by simp)
   ·exact hs _ (by simp[aK])
   ·exact hs _ (by simp)
   ·exact World.ownsRow_nil _ _ _ _
   ·exact hs _ (by simp)
   ·exact hs _ (by simp)
   ·exact hs _ (by simp)
   ·exact hs _ (by simp)
   ·exact hs _ (by simp)
   ·exact hs _ (by simp[hr])
 ·obtain⟨y1,y2,y3,y4,y5,hck5⟩:∃y1 y2 y3 y4 y5,ckids=[y1,y2,y3,y4,y5]:=by
   match ckids,jd with
   |[y1,y2,y3,y4,y5],_=>exact⟨y1,y2,y3,y4,y5,rfl⟩
  subst hck5;simp only[length_cons,length_nil]at r4;obtain⟨g6,cap6,rfl,hc6,hm6⟩:=aZ r4 (by omega);have Xh:=aq JP;clear JP r4;go_wp2_with fail;refine(an E5).mono ?_;rintro e w6 ⟨rfl,hw6⟩;have hd:decide ([y1,y2,y3,y4,y5].length=0)=false:=rfl;rw[hd];rw[<-hw6]at Xh;clear hw6 hd E5 k3 kf3;have tN:=an Xh;have q1:w6.cell? ⟨c.b,1,none⟩=some (.slice (some ⟨g6,0,none⟩) 5 cap6):=tN.cellAt (t:=241) (vs:=[.slice (some ⟨g5,0,none⟩) 2 cap5,.slice (some ⟨g6,0,none⟩) 5 cap6]) (by simp) rfl;have e6:=yo tN (g:=g6) (aU:=cap6) (a:=[y1,y2,y3]) (m:=[y4,y5]) (c:=[]) (n:=5) (o:=3) (k:=2) (cc:=cap6-3) (by simp) (tN.low (b:=hb) (t:=241) (vs:=[.slice (some ⟨gh,0,none⟩) 1 caph,.slice none 0 0]) (by simp)) rfl rfl rfl (by omega) (by omega)
  have E6:=aq e6;have hc63:¬(cap6=3):=by omega
  clear e6 tN;go_wp2_with fail;refine(an E6).mono ?_;rintro e w7 ⟨g7,cap7,rfl,hc7,hm7,Xg⟩;have p1:w7.cell? ⟨hb,1,none⟩=some (.slice none 0 0):=Xg.cellAt (t:=241) (vs:=[.slice (some ⟨gh,0,none⟩) 1 caph,.slice none 0 0]) (by simp) rfl;have p2:w7.frozen? ⟨hb,1,none⟩=false:=Xg.frozenAt (t:=241) (vs:=[.slice (some ⟨gh,0,none⟩) 1 caph,.slice none 0 0]) (by simp) 1;have Qg:=Xg.store [bg (.slice (some ⟨g7,0,none⟩) 2 cap7) [y4,y5],aO (.slice (some ⟨g5,0,none⟩) 2 cap5) [a1,a2]] 1 (.slice (some ⟨g7,0,none⟩) 2 cap7) _ rfl;simp only[cons_append,nil_append,set_cons_succ,set_cons_zero]at Qg
  have p3:=Qg.cellAt (b:=c.b) (t:=241) (vs:=[.slice (some ⟨g5,0,none⟩) 2 cap5,.slice (some ⟨g6,0,none⟩) 5 cap6]) (by simp) (j:=1) (v:=.slice (some ⟨g6,0,none⟩) 5 cap6) rfl;have e7:=yo Qg (g:=g6) (aU:=cap6) (a:=[]) (m:=[y1,y2,y3]) (c:=[y4,y5]) (n:=5) (o:=0) (k:=3) (cc:=cap6) (by simp) (Qg.low (b:=hb) (t:=241) (vs:=[.slice (some ⟨gh,0,none⟩) 1 caph,.slice (some ⟨g7,0,none⟩) 2 cap7]) (by simp)) rfl rfl rfl (by omega) (by omega)
  have dr:¬(c.b=hb):=fun e=>by have h5:=Xg.uniq hb;simp only[ax,aK,aO,bg,bM,dD,e,bx]at h5;omega
  have p4:w7.cell? ⟨c.b,1,none⟩=some (.slice (some ⟨g6,0,none⟩) 5 cap6):=Xg.cellAt (t:=241) (vs:=[.slice (some ⟨g5,0,none⟩) 2 cap5,.slice (some ⟨g6,0,none⟩) 5 cap6]) (by simp) rfl;have E7:=aq e7;clear e7 Xg Qg E6 q1 Xh;go_wp2_with fail;refine(an E7).mono ?_;rintro e w8 ⟨g8,cap8,rfl,hc8,hm8,Gn⟩;have p5:w8.cell? ⟨c.b,1,none⟩=some (.slice (some ⟨g6,0,none⟩) 5 cap6):=Gn.cellAt (t:=241) (vs:=[.slice (some ⟨g5,0,none⟩) 2 cap5,.slice (some ⟨g6,0,none⟩) 5 cap6]) (by simp) rfl;have p6:w8.frozen? ⟨c.b,1,none⟩=false:=Gn.frozenAt (t:=241) (vs:=[.slice (some ⟨g5,0,none⟩) 2 cap5,.slice (some ⟨g6,0,none⟩) 5 cap6]) (by simp) 1
  have Y5:=Gn.store [bg (.slice (some ⟨g8,0,none⟩) 3 cap8) [y1,y2,y3],bg (.slice (some ⟨g7,0,none⟩) 2 cap7) [y4,y5],aO (.slice (some ⟨g5,0,none⟩) 2 cap5) [a1,a2],.cell hb 241 [.slice (some ⟨gh,0,none⟩) 1 caph,.slice (some ⟨g7,0,none⟩) 2 cap7],aO (.slice (some ⟨gh,0,none⟩) 1 caph) [a4],aK b (.slice (some ⟨g3,0,none⟩) (n0+1) tz) (.slice (some ⟨g4,0,none⟩) (N+1) cap4),aO (.slice (some ⟨g3,0,none⟩) (n0+1) tz) (kS++m::lh),bg (.slice (some ⟨g4,0,none⟩) (N+1) cap4) (b8++c::⟨hb,0,[],fun _=>0⟩::cq)] 1 (.slice (some ⟨g8,0,none⟩) 3 cap8) _ rfl
  simp only[cons_append,nil_append,set_cons_succ,set_cons_zero]at Y5;have H16:=aq Y5;clear Y5 Gn E7;go_wp2_with fail
  go_end0
  refine CU (hb:=hb) (cb:=c.b) rfl (L0:=.slice (some ⟨g5,0,none⟩) 2 cap5) (LB:=.slice (some ⟨g8,0,none⟩) 3 cap8) (VH:=.slice (some ⟨gh,0,none⟩) 1 caph) (HB:=.slice (some ⟨g7,0,none⟩) 2 cap7) (V0:=.slice (some ⟨g3,0,none⟩) (n0+1) tz) (V1:=.slice (some ⟨g4,0,none⟩) (N+1) cap4) (a1:=a1) (a2:=a2) (m:=m) (a4:=a4) (ck1:=[y1,y2,y3]) (ck2:=[y4,y5]) ((an H16).conv (fun x=>?_) (fun r hr=>?_)) (.inr ⟨h0,rfl⟩) (.inr ⟨h0,rfl⟩) (fun x hx=>an lq x (by simp at hx ⊢;rcases hx with h|h|h<;>simp[h])) (fun x hx=>an lq x (by simp at hx ⊢;rcases hx with h|h<;>simp[h])) (an W6)
  ·simp only[ax,aK,aO,bg,bM,dD,eV,dI,pg,iQ];omega
  ·have hs:=(an H16).sat;have nr:∀x∈[y1,y2,y3,y4,y5],Sub au _ (h-1) x:=hs (.subs (h-1) [y1,y2,y3,y4,y5]) (by simp);simp only[mem_cons]at hr
   rcases hr with rfl|rfl|rfl|rfl|rfl|rfl|rfl|rfl|rfl|rfl|rfl|rfl|hr
   ·exact hs _ (by simp[aK])
   ·exact hs _ (by simp)
   ·exact hs _ (by simp)
   ·exact fun x hx=>nr x (by simp at hx ⊢;rcases hx with h|h|h<;>simp[h])
   ·exact hs _ (by simp[aK])
   ·exact hs _ (by simp)
   ·exact hs _ (by simp)
   ·exact fun x hx=>nr x (by simp at hx ⊢;rcases hx with h|h<;>simp[h])
   ·exact hs _ (by simp)
   ·exact hs _ (by simp)
   ·exact hs _ (by simp)
   ·exact hs _ (by simp)
   ·exact hs _ (by simp[hr])
section
theorem yI {w:World} {au:Nat} {T ty e:TypeId} {i0:TypeInfo} {z:Value} {k bytes:Nat} (ht:prog.underlying T=some (.slice e)) (hi:prog.info? e=some i0) (hz:i0.zero=some z) (h1:i0.size=k) (h2:i0.bytes=bytes) (Dh:z.cells.size=k) (hk:0<k)
 {v t:Value} {n m:Nat} {xs ys:List Value} (hv:w.ownsRow au e k v n xs) (wE:w.ownsRow au e k t m ys) (h1c:∀u∈ys,u.oneCell'=true) (hn:n+m<=1000) (hb:(n+m)*bytes<=140737488355328) (aba:au<=w.heap.size):
 ∃v' w',(Builtin.append_ #[T,T] ty #[v,t]).run prog w=.ok v' w'/\w'.ownsRow au e k v' (n+m) (xs++ys)/\w.grownBy w' v.ownBlock/\(v'.ownBlock=v.ownBlock∨∃x,v'.ownBlock=some x/\w.heap.size<=x):=by
 rcases wE.2 with⟨rfl,rfl⟩|⟨g,aU,cur,rfl,_⟩
 ·have hy:ys=[]:=eq_nil_of_length_eq_zero (by simpa using wE.1);subst hy;exact⟨v,w,run_append_owned_none w au T ty e i0 k ht hi v n xs hv,by simpa using hv,⟨rfl,rfl,rfl,Nat.le_refl _,fun _ _ _=>rfl⟩,.inl rfl⟩
 ·obtain⟨v',w',hr,ho,hg,_,ha⟩:=run_append_own_at (P:=prog) w au T ty e i0 z k bytes ht hi hz h1 h2 Dh hk v n xs hv ⟨g,0,none⟩ m aU ys wE.1 (fun j u hj=>by
   rw[Addr.add_lit,Nat.zero_add,wE.cellAt j (by have:=(List.getElem?_eq_some_iff.1 hj).1;rw[wE.1]at this;exact this)];exact hj) h1c (by unfold maxLen;omega) hb aba
  exact⟨v',w',hr,ho,hg,ha.imp id fun h=>⟨_,h,Nat.le_refl _⟩⟩
section
variable {au:Nat} {w0 w:World} {K0:Nat->Nat}
theorem EZ (l1:List aI) {v:Value} {a:List aG} {l2:List aI} (H:aw au w0 K0 w (l1++aO v a::l2)) {t:Value} {c:List aG} (hm:aO t c∈l1++aO v a::l2) (hn:a.length+c.length<=100) (hb:au<=w.heap.size) (ty:TypeId):
 ∃v' w',(Builtin.append_ #[235,235] ty #[v,t]).run prog w=.ok v' w'/\aw au w0 K0 w' (l1++aO v' (a++c)::l2):=by
 obtain⟨i0,hi,hz0,fE,fD⟩:=info_parts xc;have hv:w.ownsRow au 238 3 v a.length (flat a):=H.rowAt (by simp[aO]);have wE:w.ownsRow au 238 3 t c.length (flat c):=H.rowAt hm;obtain⟨v',w',hr,ho,hg,ha⟩:=yI (ty:=ty) underlying235 hi hz0 fE fD rfl (by decide) hv wE (fM _) (by omega) (by omega) hb;refine⟨v',w',hr,?_⟩;rw[<-eW,<-length_append]at ho;exact H.grow l1 hg ho ha
theorem EY (l1:List aI) {v:Value} {a:List bQ} {l2:List aI} (H:aw au w0 K0 w (l1++bg v a::l2)) {t:Value} {c:List bQ} (hm:bg t c∈l1++bg v a::l2) (hn:a.length+c.length<=100) (hb:au<=w.heap.size) (ty:TypeId):
 ∃v' w',(Builtin.append_ #[239,239] ty #[v,t]).run prog w=.ok v' w'/\aw au w0 K0 w' (l1++bg v' (a++c)::l2):=by
 obtain⟨i0,hi,hz0,fE,fD⟩:=info_parts xe;have hv:w.ownsRow au 190 1 v a.length (a.map fun y=>bK y.b):=H.rowAt (by simp[bg]);have wE:w.ownsRow au 190 1 t c.length (c.map fun y=>bK y.b):=H.rowAt hm;obtain⟨v',w',hr,ho,hg,ha⟩:=yI (ty:=ty) underlying239 hi hz0 fE fD rfl (by decide) hv wE (vk _) (by omega) (by omega) hb;refine⟨v',w',hr,?_⟩;rw[<-map_append,<-length_append]at ho;exact H.grow l1 hg ho ha
theorem AY (l1:List aI) {v:Value} {a:List aG} {l2:List aI} {vb:Nat} {m:aG} (H:aw au w0 K0 w (.cell vb 238 (cellsOf m)::(l1++aO v a::l2))) (hn:a.length<=90) (ty:TypeId):
 ∃v' w',(Builtin.append_ #[235,235] ty #[v,.slice (some ⟨vb,0,none⟩) 1 1]).run prog w=.ok v' w'/\aw au w0 K0 w' (l1++aO v' (a++[m])::l2):=by
 obtain⟨i0,hi,hz0,fE,fD⟩:=info_parts xc;have hv:w.ownsRow au 238 3 v a.length (flat a):=H.rowAt (by simp[aO])
 obtain⟨v',w',hr,ho,hg,_,ha⟩:=run_append_own_at (P:=prog) w au 235 ty 238 i0 _ 3 40 underlying235 hi hz0 fE fD rfl (by decide) v a.length (flat a) hv ⟨vb,0,none⟩ 1 1 (cellsOf m) rfl (fun j u hj=>by
  rw[Addr.add_lit,Nat.zero_add];exact H.cellAt (t:=238) (vs:=cellsOf m) (by simp) hj) (fun u hu=>fM [m] u (by simpa[flat]using hu)) (by unfold maxLen;omega) (by omega) (H.low (b:=vb) (t:=238) (vs:=cellsOf m) (by simp))
 refine⟨v',w',hr,?_⟩;have e1:flat a++cellsOf m=flat (a++[m]):=by rw[eW];rfl
 have e2:a.length+1=(a++[m]).length:=by simp
 rw[e1,e2]at ho;exact(H.aD []).grow l1 hg ho (ha.imp id fun h=>⟨_,h,Nat.le_refl _⟩)
end
def VR (au:Nat) (w0:World) (K0:Nat->Nat) (b h:Nat) (kS lh:List aG) (m:aG) (b8 cq:List bQ) (lo hi:bQ) (l2:List aI) (e:Ending) (w':World):Prop:=
 e=.returned (.tuple #[])/\∃c v0 v1,c.L=lo.L++m::hi.L/\c.c=lo.c+1+hi.c/\aw au w0 K0 w' (aK b v0 v1::aO v0 (kS++lh)::bg v1 (b8++c::cq)::.subs h (b8++c::cq)::l2)
theorem KE (au:Nat) (w0:World) (K0:Nat->Nat) (w:World) (b h i:Nat) (kS lh:List aG) (m:aG) (b8 cq:List bQ) (lo hi:bQ) (v0 v1:Value) (l2:List aI)
 (H:aw au w0 K0 w (aK b v0 v1::aO v0 (kS++m::lh)::bg v1 (b8++lo::hi::cq)::.subs h (b8++lo::hi::cq)::l2))
 (Cd:kS.length=i) (ji:b8.length=i) (hl:(kS++m::lh).length<=10) (tm:cq.length<=10) (hlo:lo.c<=4) (hhi:hi.c<=4):
 Calls prog 281 #[.pointer (some ⟨b,0,none⟩),.int .i64 i] w fun e w'=>VR au w0 K0 b h kS lh m b8 cq lo hi l2 e w':=by
 have H1:=H.take [aK b v0 v1,aO v0 (kS++m::lh),bg v1 (b8++lo::hi::cq)];obtain⟨lits,ie,u0,u1,hlc,hlL,hlsh,hlfit,H2⟩:=H1.open [aK b v0 v1,aO v0 (kS++m::lh),bg v1 (b8++lo::hi::cq)];have H3:=H2.take [aK b v0 v1,aO v0 (kS++m::lh),bg v1 (b8++lo::hi::cq),aK lo.b u0 u1,aO u0 lits,bg u1 ie,.subs (h-1) ie];obtain⟨eP,bV,t0,t1,hhc,hhL,hhsh,hhfit,H4⟩:=H3.open [aK b v0 v1,aO v0 (kS++m::lh),bg v1 (b8++lo::hi::cq),aK lo.b u0 u1,aO u0 lits,bg u1 ie,.subs (h-1) ie]
 simp only[cons_append,nil_append]at H4;clear H H1 H2 H3;obtain⟨N,hN⟩:=aa ((b8++lo::hi::cq).length);obtain⟨n0,oN⟩:=aa ((kS++m::lh).length);have r1:w.ownsRow au 190 1 v1 N ((b8++lo::hi::cq).map fun y=>bK y.b):=by rw[<-hN];exact H4.rowAt (by simp[bg])
 have r0:w.ownsRow au 238 3 v0 n0 (flat (kS++m::lh)):=by rw[<-oN];exact H4.rowAt (by simp[aO])
 have hN1:i+1<N:=by rw[<-hN,length_append,ji];simp
 have hNb:N<=30:=by rw[<-hN,length_append,ji];simp at hl ⊢;omega
 have gY:i<n0:=by rw[<-oN,length_append,Cd];simp
 obtain⟨g1,cap1,rfl,kE,Dq⟩:=aZ r1 (by omega);obtain⟨g0,cap0,rfl,lv,hm0⟩:=aZ r0 (by omega);have p1:=fI r1 (j:=i) (k:=lo) (by rw[<-ji];simp);have p2:=fI r1 (j:=i+1) (k:=hi) (by rw[<-ji];simp);have q1:w.cell? ⟨b,1,none⟩=some (.slice (some ⟨g1,0,none⟩) N cap1):=H4.cellAt (t:=241) (vs:=[.slice (some ⟨g0,0,none⟩) n0 cap0,.slice (some ⟨g1,0,none⟩) N cap1]) (by simp[aK]) rfl;have HN:=aq hN;have YO:=aq oN;have Tq:=aq Cd;have rj:=aq ji;have Hl2:=aq tm;have HlL:=aq hlL;have HhL:=aq hhL
 have YP:=aq hlsh;have Tr:=aq hhsh;have abW:=aq hlfit;have abZ:=aq hhfit;have Hlc:=aq hlc;have Hhc:=aq hhc;have HH:=aq H4;have mI:(i:Int)<(N:Int):=by omega
 have aaT:(i:Int)+1<(N:Int):=by omega
 have hiz0:(0:Int)<=(i:Int)+1:=by omega
 have iD:IntKind.i64.wrap ((i:Int)+1)=(i:Int)+1:=by rw[IntKind.wrap_i64];omega
 have UO:((i:Int)+1).toNat=i+1:=by omega
 have hl10:n0<=10:=by rw[<-oN];exact hl
 clear H4 r0 r1 hN oN Cd ji tm hlL hhL hlsh hhsh hlfit hhfit hlc hhc hl;go_enter func281,ntmps281;go_wp2_with fail
 go_quiet (fail)
 go_wp2_with fail
 have yN:=aq ((an HH).drewN nq);generalize w.drewN nq=w1 at yN ⊢;clear HH p1 p2 q1;have h1:=an yN;have q0:w1.cell? ⟨b,0,none⟩=some (.slice (some ⟨g0,0,none⟩) n0 cap0):=h1.cellAt (t:=241) (vs:=[.slice (some ⟨g0,0,none⟩) n0 cap0,.slice (some ⟨g1,0,none⟩) N cap1]) (by simp[aK]) rfl;have q1:w1.cell? ⟨lo.b,0,none⟩=some u0:=h1.cellAt (t:=241) (vs:=[u0,u1]) (by simp[aK]) rfl;have q2:w1.cell? ⟨hi.b,0,none⟩=some t0:=h1.cellAt (t:=241) (vs:=[t0,t1]) (by simp[aK]) rfl;have r0:w1.ownsRow au 238 3 (.slice (some ⟨g0,0,none⟩) n0 cap0) n0 (flat (kS++m::lh)):=by have:=an YO;rw[<-this];exact h1.rowAt (by simp[aO,this])
 obtain⟨s1,s2,s3⟩:=iT r0 (j:=i) (x:=m) (by rw[<-an Tq];simp);have aeF:∀o,(w1.alloc o).cell? ⟨lo.b,0,none⟩=some u0:=fun o=>Lib.cell?_alloc_some _ q1
 have Yd:∀o,(w1.alloc o).cell? ⟨hi.b,0,none⟩=some t0:=fun o=>Lib.cell?_alloc_some _ q2
 have mg:au<=w1.heap.size:=h1.low (b:=b) (t:=241) (vs:=[.slice (some ⟨g0,0,none⟩) n0 cap0,.slice (some ⟨g1,0,none⟩) N cap1]) (by simp[aK]);have Hm:Hid (aw au w0 K0 (w1.alloc (.cells #[Value.string m.az,Value.string m.name,Value.int .i64 m.aN] 238)) (.cell w1.heap.size 238 (cellsOf m)::_)):=h1.aY mg 238 (cellsOf m);have hiz3:(i:Int)<(n0:Int):=by omega
 have KN:lits.length<=4:=by have:=an Hlc;omega
 have hhl:eP.length<=4:=by have:=an Hhc;omega
 have eA:∀wx,aw au w0 K0 wx (.cell w1.heap.size 238 (cellsOf m)::([aK b (.slice (some ⟨g0,0,none⟩) n0 cap0) (.slice (some ⟨g1,0,none⟩) N cap1),aO (.slice (some ⟨g0,0,none⟩) n0 cap0) (kS++m::lh),bg (.slice (some ⟨g1,0,none⟩) N cap1) (b8++lo::hi::cq),aK lo.b u0 u1]++aO u0 lits::(bg u1 ie::.subs (h-1) ie::aK hi.b t0 t1::aO t0 eP::bg t1 bV::.subs (h-1) bV::.subs h (b8++cq)::l2)))->
  ∃v' w',(Builtin.append_ #[235,235] 235 #[u0,.slice (some ⟨w1.heap.size,0,none⟩) 1 1]).run prog wx=.ok v' w'/\aw au w0 K0 w' _:=fun wx hx=>AY _ hx (by omega) 235
 have EA:=aq eA;have vC:lits.length+1+eP.length=(lits++[m]++eP).length:=by simp;omega
 have eB:∀va wx,aw au w0 K0 wx ([aK b (.slice (some ⟨g0,0,none⟩) n0 cap0) (.slice (some ⟨g1,0,none⟩) N cap1),aO (.slice (some ⟨g0,0,none⟩) n0 cap0) (kS++m::lh),bg (.slice (some ⟨g1,0,none⟩) N cap1) (b8++lo::hi::cq),aK lo.b u0 u1]++aO va (lits++[m])::(bg u1 ie::.subs (h-1) ie::aK hi.b t0 t1::aO t0 eP::bg t1 bV::.subs (h-1) bV::.subs h (b8++cq)::l2))->
  ∃gb zi w',(Builtin.append_ #[235,235] 235 #[va,t0]).run prog wx=.ok (.slice (some ⟨gb,0,none⟩) (lits.length+1+eP.length) zi) w'/\aw au w0 K0 w' ([aK b (.slice (some ⟨g0,0,none⟩) n0 cap0) (.slice (some ⟨g1,0,none⟩) N cap1),aO (.slice (some ⟨g0,0,none⟩) n0 cap0) (kS++m::lh),bg (.slice (some ⟨g1,0,none⟩) N cap1) (b8++lo::hi::cq),aK lo.b u0 u1]++aO (.slice (some ⟨gb,0,none⟩) (lits.length+1+eP.length) zi) (lits++[m]++eP)::(bg u1 ie::.subs (h-1) ie::aK hi.b t0 t1::aO t0 eP::bg t1 bV::.subs (h-1) bV::.subs h (b8++cq)::l2)):=by
  intro va wx hx;obtain⟨vb,wb,wF,Hb⟩:=EZ _ hx (t:=t0) (c:=eP) (by simp) (by simp;omega) (hx.low (b:=b) (t:=241) (vs:=[.slice (some ⟨g0,0,none⟩) n0 cap0,.slice (some ⟨g1,0,none⟩) N cap1]) (by simp[aK])) 235;have rb:wb.ownsRow au 238 3 vb (lits.length+1+eP.length) (flat (lits++[m]++eP)):=by rw[vC];exact Hb.rowAt (by simp[aO])
  obtain⟨gb,zi,XL,_,_⟩:=aZ rb (by omega);rw[XL]at wF Hb;exact⟨gb,zi,wb,wF,Hb⟩
 have EB:=aq eB;clear eA eB vC r0 h1
 go_cut []from 6 (fun wc=>Hid (∃gb zi,aw au w0 K0 wc ([aK b (.slice (some ⟨g0,0,none⟩) n0 cap0) (.slice (some ⟨g1,0,none⟩) N cap1),aO (.slice (some ⟨g0,0,none⟩) n0 cap0) (kS++m::lh),bg (.slice (some ⟨g1,0,none⟩) N cap1) (b8++lo::hi::cq)]++aK lo.b (.slice (some ⟨gb,0,none⟩) (lits.length+1+eP.length) zi) u1::aO (.slice (some ⟨gb,0,none⟩) (lits.length+1+eP.length) zi) (lits++m::eP)::bg u1 ie::.subs (h-1) ie::aK hi.b t0 t1::aO t0 eP::bg t1 bV::.subs (h-1) bV::.subs h (b8++cq)::l2)))
 case first=>
  go_region_law (first
   |(
    obtain⟨va,wa,TV,Ha⟩:=an EA _ (an Hm).drew;have ka:wa.cell? ⟨hi.b,0,none⟩=some t0:=Ha.cellAt (t:=241) (vs:=[t0,t1]) (by simp[aK]) rfl;have HHa:=aq Ha;clear Ha;refine cH rfl _ _ 235 235 rfl u0 (.slice (some ⟨w1.heap.size,0,none⟩) 1 1) (by simp[Act.eval,Act.put]) (by simp[Act.eval,Act.put]) TV ?_;clear TV)
   |(
    obtain⟨gb,zi,wb,wF,Hb⟩:=an EB va _ (an HHa);have kb:wb.cell? ⟨lo.b,0,none⟩=some u0:=Hb.cellAt (t:=241) (vs:=[u0,u1]) (by simp[aK]) rfl;have kf:wb.frozen? ⟨lo.b,0,none⟩=false:=Hb.frozenAt (t:=241) (vs:=[u0,u1]) (by simp[aK]) 0;have HHb:=aq Hb;clear Hb;refine cH rfl _ _ 235 235 rfl va t0 (by simp[Act.eval,Act.put]) (by simp[Act.eval,Act.put]) wF ?_;clear wF))
  all_goals (go_wp2_with fail;go_meet;exact⟨gb,zi,by
   have h5:=(an HHb).store [aK b (.slice (some ⟨g0,0,none⟩) n0 cap0) (.slice (some ⟨g1,0,none⟩) N cap1),aO (.slice (some ⟨g0,0,none⟩) n0 cap0) (kS++m::lh),bg (.slice (some ⟨g1,0,none⟩) N cap1) (b8++lo::hi::cq)] 0 (.slice (some ⟨gb,0,none⟩) (lits.length+1+eP.length) zi) _ rfl;rw[show lits++m::eP=lits++[m]++eP by simp];exact h5⟩)
 case rest=>
 obtain⟨gb,zi,H5⟩:=an hcut;simp only[cons_append,nil_append]at H5;clear hcut EA EB Hm yN q0 q1 q2 s1 s2 s3 aeF Yd mg;obtain⟨U0,hU0⟩:=aa (Value.slice (some ⟨gb,0,none⟩) (lits.length+1+eP.length) zi);rw[hU0]at H5;clear hU0;have q1:wc.cell? ⟨lo.b,1,none⟩=some u1:=H5.cellAt (t:=241) (vs:=[U0,u1]) (by simp[aK]) rfl;have q2:wc.cell? ⟨hi.b,1,none⟩=some t1:=H5.cellAt (t:=241) (vs:=[t0,t1]) (by simp[aK]) rfl
 have J1:ie.length<=5/\bV.length<=5:=by
  refine⟨?_,?_⟩
  ·rcases an YP with⟨_,h0⟩|⟨_,h0⟩
   ·rw[h0];simp
   ·omega
  ·rcases an Tr with⟨_,h0⟩|⟨_,h0⟩
   ·rw[h0];simp
   ·omega
 have eC:∀wx,aw au w0 K0 wx ([aK b (.slice (some ⟨g0,0,none⟩) n0 cap0) (.slice (some ⟨g1,0,none⟩) N cap1),aO (.slice (some ⟨g0,0,none⟩) n0 cap0) (kS++m::lh),bg (.slice (some ⟨g1,0,none⟩) N cap1) (b8++lo::hi::cq),aK lo.b U0 u1,aO U0 (lits++m::eP)]++bg u1 ie::(.subs (h-1) ie::aK hi.b t0 t1::aO t0 eP::bg t1 bV::.subs (h-1) bV::.subs h (b8++cq)::l2))->
  ∃p n c w',(Builtin.append_ #[239,239] 239 #[u1,t1]).run prog wx=.ok (.slice p n c) w'/\aw au w0 K0 w' ([aK b (.slice (some ⟨g0,0,none⟩) n0 cap0) (.slice (some ⟨g1,0,none⟩) N cap1),aO (.slice (some ⟨g0,0,none⟩) n0 cap0) (kS++m::lh),bg (.slice (some ⟨g1,0,none⟩) N cap1) (b8++lo::hi::cq),aK lo.b U0 u1,aO U0 (lits++m::eP)]++bg (.slice p n c) (ie++bV)::(.subs (h-1) ie::aK hi.b t0 t1::aO t0 eP::bg t1 bV::.subs (h-1) bV::.subs h (b8++cq)::l2)):=by
  intro wx hx;obtain⟨vb,wb,wF,Hb⟩:=EY _ hx (t:=t1) (c:=bV) (by simp) (by omega) (hx.low (b:=b) (t:=241) (vs:=[.slice (some ⟨g0,0,none⟩) n0 cap0,.slice (some ⟨g1,0,none⟩) N cap1]) (by simp[aK])) 239;have rb:wb.ownsRow au 190 1 vb (ie++bV).length ((ie++bV).map fun y=>bK y.b):=Hb.rowAt (by simp[bg])
  rcases rb.2 with⟨hv,hn⟩|⟨g,aU,_,hv,_⟩
  ·rw[hv]at wF Hb;exact⟨none,0,0,wb,wF,Hb⟩
  ·rw[hv]at wF Hb;exact⟨some ⟨g,0,none⟩,_,aU,wb,wF,Hb⟩
 have EC:=aq eC;have PD:=aq H5;have Hkl:=aq J1;clear eC H5 J1;go_wp2_with fail
 go_cut []from 6 (fun wd=>Hid (∃p n c,aw au w0 K0 wd ([aK b (.slice (some ⟨g0,0,none⟩) n0 cap0) (.slice (some ⟨g1,0,none⟩) N cap1),aO (.slice (some ⟨g0,0,none⟩) n0 cap0) (kS++m::lh),bg (.slice (some ⟨g1,0,none⟩) N cap1) (b8++lo::hi::cq)]++aK lo.b U0 (.slice p n c)::aO U0 (lits++m::eP)::bg (.slice p n c) (ie++bV)::.subs (h-1) ie::aK hi.b t0 t1::aO t0 eP::bg t1 bV::.subs (h-1) bV::.subs h (b8++cq)::l2)))
 case first=>
  go_region_law ((obtain⟨pc,nc,cc,wd,hrc,Hc⟩:=an EC _ (an PD).drew;have kb:wd.cell? ⟨lo.b,1,none⟩=some u1:=Hc.cellAt (t:=241) (vs:=[U0,u1]) (by simp[aK]) rfl;have kf:wd.frozen? ⟨lo.b,1,none⟩=false:=Hc.frozenAt (t:=241) (vs:=[U0,u1]) (by simp[aK]) 1;have HHc:=aq Hc;clear Hc;refine cH rfl _ _ 239 239 rfl u1 t1 (by simp[Act.eval,Act.put]) (by simp[Act.eval,Act.put]) hrc ?_;clear hrc))
  all_goals (go_wp2_with fail;go_meet;exact⟨pc,nc,cc,(an HHc).store [aK b (.slice (some ⟨g0,0,none⟩) n0 cap0) (.slice (some ⟨g1,0,none⟩) N cap1),aO (.slice (some ⟨g0,0,none⟩) n0 cap0) (kS++m::lh),bg (.slice (some ⟨g1,0,none⟩) N cap1) (b8++lo::hi::cq)] 1 (.slice pc nc cc) _ rfl⟩)
 case rest=>
 obtain⟨pc,nc,cc,H6⟩:=an hcut;simp only[cons_append,nil_append]at H6;clear hcut EC PD q1 q2;obtain⟨U1,hU1⟩:=aa (Value.slice pc nc cc);rw[hU1]at H6;clear hU1;have q0:wc.cell? ⟨b,0,none⟩=some (.slice (some ⟨g0,0,none⟩) n0 cap0):=H6.cellAt (t:=241) (vs:=[.slice (some ⟨g0,0,none⟩) n0 cap0,.slice (some ⟨g1,0,none⟩) N cap1]) (by simp[aK]) rfl;have e6:=qB [aK b (.slice (some ⟨g0,0,none⟩) n0 cap0) (.slice (some ⟨g1,0,none⟩) N cap1)] H6 (an Tq) (an YO) (by omega);have E6:=aq e6;clear e6 H6;go_wp2_with fail
 refine(an E6).mono ?_;rintro e w7 ⟨g7,cap7,rfl,hc7,hm7,H7⟩;simp only[cons_append,nil_append]at H7;have k0:w7.cell? ⟨b,0,none⟩=some (.slice (some ⟨g0,0,none⟩) n0 cap0):=H7.cellAt (t:=241) (vs:=[.slice (some ⟨g0,0,none⟩) n0 cap0,.slice (some ⟨g1,0,none⟩) N cap1]) (by simp[aK]) rfl;have kf:w7.frozen? ⟨b,0,none⟩=false:=H7.frozenAt (t:=241) (vs:=[.slice (some ⟨g0,0,none⟩) n0 cap0,.slice (some ⟨g1,0,none⟩) N cap1]) (by simp[aK]) 0;have k1:w7.cell? ⟨b,1,none⟩=some (.slice (some ⟨g1,0,none⟩) N cap1):=H7.cellAt (t:=241) (vs:=[.slice (some ⟨g0,0,none⟩) n0 cap0,.slice (some ⟨g1,0,none⟩) N cap1]) (by simp[aK]) rfl
 have H8:=H7.store [] 0 (.slice (some ⟨g7,0,none⟩) (n0-1) cap7) _ rfl;simp only[cons_append,nil_append,set_cons_zero]at H8;have e7:=EX [.cell b 241 [.slice (some ⟨g7,0,none⟩) (n0-1) cap7,.slice (some ⟨g1,0,none⟩) N cap1],aO (.slice (some ⟨g7,0,none⟩) (n0-1) cap7) (kS++lh)] (a:=b8++[lo]) (m:=hi) (c:=cq) (n:=N) (i:=i+1) (by simpa using H8) (by have:=an rj;simp;omega) (by have:=an HN;simp at this ⊢;omega) (by omega);rw[show((i+1:Nat):Int)+1=(i:Int)+2 from by omega,show((i+1:Nat):Int)=(i:Int)+1 from by omega]at e7
 have E7:=aq e7;clear e7 H7 H8 E6 q0;go_wp2_with fail;refine(an E7).mono ?_;rintro e w8 ⟨g8,cap8,rfl,hc8,hm8,H9⟩;simp only[cons_append,nil_append]at H9;have k2:w8.cell? ⟨b,1,none⟩=some (.slice (some ⟨g1,0,none⟩) N cap1):=H9.cellAt (t:=241) (vs:=[.slice (some ⟨g7,0,none⟩) (n0-1) cap7,.slice (some ⟨g1,0,none⟩) N cap1]) (by simp) rfl;have kf2:w8.frozen? ⟨b,1,none⟩=false:=H9.frozenAt (t:=241) (vs:=[.slice (some ⟨g7,0,none⟩) (n0-1) cap7,.slice (some ⟨g1,0,none⟩) N cap1]) (by simp) 1;have JP:=H9.store [] 1 (.slice (some ⟨g8,0,none⟩) (N-1) cap8) _ rfl
 simp only[cons_append,nil_append,set_cons_zero,set_cons_succ]at JP;have afK:=aq JP;clear H9 JP E7 k0 kf k1;go_wp2_with fail
 go_end0
 have pH:=an afK
 have tN:aw au w0 K0 _ (aK lo.b U0 U1::aO U0 (lits++m::eP)::bg U1 (ie++bV)::.subs (h-1) (ie++bV)::aK b (.slice (some ⟨g7,0,none⟩) (n0-1) cap7) (.slice (some ⟨g8,0,none⟩) (N-1) cap8)::aO (.slice (some ⟨g7,0,none⟩) (n0-1) cap7) (kS++lh)::bg (.slice (some ⟨g8,0,none⟩) (N-1) cap8) (b8++[lo]++cq)::.subs h (b8++cq)::l2):=pH.conv (fun x=>by
  simp only[ax,aK,aO,bg,bM,dD,eV,dI,jr];omega) (fun r hr=>by
  have hs:=pH.sat;have rV:∀x∈ie,Sub au _ (h-1) x:=hs (.subs (h-1) ie) (by simp);have yl:∀x∈bV,Sub au _ (h-1) x:=hs (.subs (h-1) bV) (by simp);simp only[mem_cons]at hr
  rcases hr with rfl|rfl|rfl|rfl|rfl|rfl|rfl|rfl|hr
  ·exact hs _ (by simp)
  ·exact hs _ (by simp)
  ·exact hs _ (by simp)
  ·intro x hx
   rcases mem_append.1 hx with h1|h1
   ·exact rV x h1
   ·exact yl x h1
  ·exact hs _ (by simp[aK])
  ·exact hs _ (by simp)
  ·exact hs _ (by simp)
  ·exact hs _ (by simp)
  ·exact hs _ (by simp[hr]))
 have KK:Shape h (lits++m::eP) (ie++bV):=by
  rcases an YP with⟨h1,h2⟩|⟨h1,h2⟩
  ·rcases an Tr with⟨h3,h4⟩|⟨h3,h4⟩
   ·exact .inl ⟨h1,by rw[h2,h4];rfl⟩
   ·omega
  ·rcases an Tr with⟨h3,h4⟩|⟨h3,h4⟩
   ·omega
   ·exact .inr ⟨h1,by simp;omega⟩
 obtain⟨c,b1,n1,L1,pX⟩:=tN.shut [] (h:=h) KK (fun x hx=>by
  rcases mem_append.1 hx with h1|h1
  ·exact an abW x h1
  ·exact an abZ x h1)
 refine⟨rfl,c,.slice (some ⟨g7,0,none⟩) (n0-1) cap7,.slice (some ⟨g8,0,none⟩) (N-1) cap8,?_,?_,?_⟩
 ·rw[L1,an HlL,an HhL,map_append]
  rcases an YP with⟨h1,h2⟩|⟨h1,h2⟩
  ·rcases an Tr with⟨h3,h4⟩|⟨h3,h4⟩
   ·rw[h2,h4];simp[cJ]
   ·omega
  ·rcases an Tr with⟨h3,h4⟩|⟨h3,h4⟩
   ·omega
   ·exact wZ lits _ m eP _ (by simpa using h2) (by simpa using h4)
 ·rw[n1,an Hlc,an Hhc];simp;omega
 ·have e:bg (.slice (some ⟨g8,0,none⟩) (N-1) cap8) (b8++[lo]++cq)=bg (.slice (some ⟨g8,0,none⟩) (N-1) cap8) (b8++c::cq):=mX (by simp[b1]);rw[e]at pX;have tM:=((pX.front [_,_,_]).front [_,_,_]).front [_,_,_];exact tM.OP [_,_,_] b8 cq
end
theorem Dg:∀(a:List aG) (c:List aG) (ls:List (List aG)),(ls=[]∨ls.length=a.length+c.length+2)->∃A C,∀y,inter (a++y::c) ls=A++y::C
 |a,c,[],_=>⟨a,c,fun y=>by rw[cJ]⟩
 |[],c,l::ls,_=>⟨l,inter c ls,fun y=>rfl⟩
 |i::a,c,l::ls,h=>by
  have h':ls.length=a.length+c.length+2:=by rcases h with h|h<;>simp at h;omega
  obtain⟨A,C,e⟩:=Dg a c ls (.inr h');exact⟨l++i::A,C,fun y=>by simp only[cons_append,inter];rw[e y];simp⟩
theorem bf.NN {it x:aG} {A C:List aG} (h:bf (A++x::C)) (hx:x.az=it.az):da (A++x::C) it=A++it::C:=
 sL A C (fun i hi=>by rw[<-hx];exact(pairwise_append.1 h).2.2 i hi x (by simp)) hx
theorem Uz {a c:List aG} {x y:List (List aG)} {l:List aG} {it:aG} (h1:a.length=x.length) (h2:c.length=y.length) (hs:bf (inter (a++c) (x++l::y))) (ha:∀i∈a,dR i.az it.az) (hc:∀i∈c,dR it.az i.az):
 da (inter (a++c) (x++l::y)) it=inter (a++c) (x++da l it::y)/\bf l:=by
 rw[dj a x c l y h1 h2]at hs ⊢;rw[dj a x c _ y h1 h2];have hp:=zt h1 (t:=l++post c y) (by rw[<-append_assoc];exact hs) ha;have hq:=wP h2 hs hc;exact⟨by rw[append_assoc,kM _ _ hp,mQ _ _ hq];simp,hs.V8⟩
theorem AR {a c:List aG} {x y:List (List aG)} {l1 l2:List aG} {m:aG} (h1:a.length=x.length) (h2:c.length=y.length):inter (a++m::c) (x++l1::l2::y)=inter (a++c) (x++(l1++m::l2)::y):=by
 rw[dj a x (m::c) l1 (l2::y) h1 (by simp[h2]),dj a x c _ y h1 h2];simp[post]
theorem Shape.sorted {h:Nat} {aQ:List aG} {aM:List bQ} (hs:Shape h aQ aM) (hL:bf (inter aQ (aM.map bQ.L))):bf aQ:=
 hL.items (by rcases hs with⟨_,rfl⟩|⟨_,hl⟩;exact .inl rfl;exact .inr (by simpa using hl))
theorem Found.split {aQ:List aG} {az:ByteArray} {at':Nat} {qv:Bool} (h:Found aQ az at' qv):
 (qv=true/\∃a x c,aQ=a++x::c/\a.length=at'/\x.az=az/\∀i∈a,dR i.az az)∨(qv=false/\∃a c,aQ=a++c/\a.length=at'/\(∀i∈a,dR i.az az)/\∀i∈c,dR az i.az):=by
 obtain⟨hl,ha,hr⟩:=h
 rcases hr with⟨h1,x,hx,hk⟩|⟨h1,hc⟩
 ·left;obtain⟨eO,rfl⟩:=List.getElem?_eq_some_iff.1 hx;exact⟨h1,aQ.take at',aQ[at'],aQ.drop (at'+1),by rw[<-drop_eq_getElem_cons eO,take_append_drop],by rw[length_take];omega,hk,ha⟩
 ·right;exact⟨h1,aQ.take at',aQ.drop at',(take_append_drop _ _).symm,by rw[length_take];omega,ha,hc⟩
def OpenAt (au:Nat) (w0:World) (K0:Nat->Nat) (w:World) (b h:Nat) (M:List aG) (n0:Nat) (l2:List aI):Prop:=
 ∃aQ aM v0 v1,inter aQ (aM.map bQ.L)=M/\aQ.length<=n0/\n0<=aQ.length+1/\aM.length=aQ.length+1/\(∀x∈aM,Fit x)/\aw au w0 K0 w (aK b v0 v1::aO v0 aQ::bg v1 aM::.subs h aM::l2)
def FU (au:Nat) (w0:World) (K0:Nat->Nat) (b h:Nat) (M:List aG) (n0:Nat) (l2:List aI) (e:Ending) (w':World):Prop:=
 e=.returned (.tuple #[])/\OpenAt au w0 K0 w' b h M n0 l2
theorem Ik (au:Nat) (w0:World) (K0:Nat->Nat) (w:World) (b h i at':Nat) (kS lh:List aG) (m:aG) (b8 cq:List bQ) (lo hi c0:bQ) (v0 v1:Value) (l2:List aI)
 (H:aw au w0 K0 w (aK b v0 v1::aO v0 (kS++m::lh)::bg v1 (b8++lo::hi::cq)::.subs h (b8++lo::hi::cq)::l2))
 (Cd:kS.length=i) (ji:b8.length=i) (ll:lh.length=cq.length) (hl:(kS++m::lh).length<=3)
 (iV:(at'=i/\c0=lo)∨(at'=i+1/\c0=hi/\lh=[])) (hc:c0.c=0) (kD:1<=lo.c+hi.c/\lo.c+hi.c<=3) (hf:∀x∈b8++cq,Fit x):
 Calls prog 262 #[.pointer (some ⟨b,0,none⟩),.int .i64 at'] w fun e w'=>FU au w0 K0 b h (inter (kS++m::lh) ((b8++lo::hi::cq).map bQ.L)) (kS++m::lh).length l2 e w':=by
 obtain⟨N,hN⟩:=aa ((b8++lo::hi::cq).length);obtain⟨n0,oN⟩:=aa ((kS++m::lh).length);have r1:w.ownsRow au 190 1 v1 N ((b8++lo::hi::cq).map fun y=>bK y.b):=by rw[<-hN];exact H.rowAt (by simp[bg])
 have r0:w.ownsRow au 238 3 v0 n0 (flat (kS++m::lh)):=by rw[<-oN];exact H.rowAt (by simp[aO])
 have hNn:N=n0+1:=by rw[<-hN,<-oN];simp;omega
 have gY:i<n0:=by rw[<-oN,length_append,Cd];simp
 have abe:at'<N:=by rcases iV with⟨h1,_⟩|⟨h1,_⟩<;>omega
 obtain⟨g1,cap1,rfl,kE,Dq⟩:=aZ r1 (by omega);obtain⟨g0,cap0,rfl,lv,hm0⟩:=aZ r0 (by omega)
 have Wy:(b8++lo::hi::cq)[at']? = some c0:=by
  rcases iV with⟨h1,h2⟩|⟨h1,h2,_⟩
  ·rw[h1,h2,<-ji];simp
  ·rw[h1,h2,<-ji];simp
 have p1:=fI r1 (j:=at') (k:=c0) Wy;have q0:w.cell? ⟨b,0,none⟩=some (.slice (some ⟨g0,0,none⟩) n0 cap0):=H.cellAt (t:=241) (vs:=[.slice (some ⟨g0,0,none⟩) n0 cap0,.slice (some ⟨g1,0,none⟩) N cap1]) (by simp[aK]) rfl;have q1:w.cell? ⟨b,1,none⟩=some (.slice (some ⟨g1,0,none⟩) N cap1):=H.cellAt (t:=241) (vs:=[.slice (some ⟨g0,0,none⟩) n0 cap0,.slice (some ⟨g1,0,none⟩) N cap1]) (by simp[aK]) rfl
 have gZ:∃u0 p cu,w.cell? ⟨c0.b,0,none⟩=some u0/\u0=.slice p 0 cu:=by
  have nr:Sub au w h c0:=H.sat (.subs h (b8++lo::hi::cq)) (by simp) c0 (mem_of_getElem? Wy);obtain⟨aQ,aM,u0,u1,hn,_,_⟩:=nr.open;have Dv:=hn.items;rw[<-hn.c,hc]at Dv;refine⟨u0,?_⟩
  rcases Dv.2 with⟨h1,_⟩|⟨g,aU,cur,h1,_⟩
  ·exact⟨none,0,by rw[cell_of_row w c0.b 0 _ 241 (0,0) hn.cell];rfl,h1⟩
  ·exact⟨_,aU,by rw[cell_of_row w c0.b 0 _ 241 (0,0) hn.cell];rfl,h1⟩
 obtain⟨u0,pu,cu,q2,rfl⟩:=gZ;have e1:=KE au w0 K0 w b h i kS lh m b8 cq lo hi _ _ l2 H Cd ji (by omega) (by simp only[length_append,length_cons]at hl;omega) (by omega) (by omega);have E1:=aq e1
 have vD:min (at':Int) ((n0:Int)-1)=(i:Int):=by
  rcases iV with⟨h1,_⟩|⟨h1,_,h3⟩
  ·omega
  ·have:n0=i+1:=by rw[<-oN,length_append,Cd,h3];simp
   omega
 have haz:(at':Int)<(N:Int):=by omega
 have afm:=aq vD;have HN:=aq hN;have YO:=aq oN;have Tq:=aq Cd;have rj:=aq ji;have Uf:=aq ll;have Hf:=aq hf;have hn03:n0<=3:=by rw[<-oN];exact hl
 clear e1 H r0 r1 Wy vD hN oN Cd ji ll hf iV hc hl;go_enter func262,ntmps262;go_wp2_with fail;rw[an afm];refine(an E1).mono ?_;rintro e w2 ⟨rfl,c,V0,V1,MG,hccc,H2⟩;have hN2:(b8++c::cq).length=N-1:=by have:=an HN;simp at this ⊢;omega
 have r1:w2.ownsRow au 190 1 V1 (N-1) ((b8++c::cq).map fun y=>bK y.b):=by rw[<-hN2];exact H2.rowAt (by simp[bg])
 obtain⟨g2,cap2,rfl,_,_⟩:=aZ r1 (by omega);have p2:=fI r1 (j:=i) (k:=c) (by rw[<-an rj];simp);have q3:w2.cell? ⟨b,1,none⟩=some (.slice (some ⟨g2,0,none⟩) (N-1) cap2):=H2.cellAt (t:=241) (vs:=[V0,.slice (some ⟨g2,0,none⟩) (N-1) cap2]) (by simp[aK]) rfl
 have eK:∃o0 on oxs,w2.cell? ⟨c.b,0,none⟩=some o0/\w2.ownsRow au 238 3 o0 on oxs/\c.c=on:=by have nr:Sub au w2 h c:=H2.sat (.subs h (b8++c::cq)) (by simp) c (by simp);obtain⟨aQ,aM,u0,u1,hn,_,_⟩:=nr.open;exact⟨u0,_,_,by rw[cell_of_row w2 c.b 0 _ 241 (0,0) hn.cell];rfl,hn.items,hn.c⟩
 obtain⟨o0,on,oxs,o1,o2,o3⟩:=eK;have e2:=ui c.b o0 on w2 o1 au oxs o2 (by omega);have E2:=aq e2
 have kA:kS.length=(b8.map bQ.L).length/\lh.length=(cq.map bQ.L).length:=by have h1:=an Tq;have h2:=an rj;have h3:=an Uf;simp only[length_map];omega
 have RN:inter (kS++m::lh) ((b8++lo::hi::cq).map bQ.L)=inter (kS++lh) ((b8++c::cq).map bQ.L):=by simp only[map_append,map_cons];rw[AR kA.1 kA.2,MG]
 have Tp:=aq RN;have VU:=aq kA;have ri:=aq H2;have ab4:=aq hccc;have hiz2:(i:Int)<((N-1:Nat):Int):=by omega
 have Ho3:=aq o3;clear e2 H2 r1 o1 o2 MG hN2 kA RN E1 q0 q1 q2 p1 o3 hNn
 by_cases hov4:3<on
 ·have hd:decide (3<on)=true:=by simp[hov4]
  rw[hd]at E2;have e3:=l6 au w0 K0 w2 b h i kS lh b8 cq c V0 (.slice (some ⟨g2,0,none⟩) (N-1) cap2) l2 (an ri) (an Tq) (an rj) (by have:=an YO;simp only[length_append,length_cons]at this ⊢;omega) (by have h1:=an Uf;have h2:=an YO;simp only[length_append,length_cons]at h2;omega) (by have h1:=an Ho3;have h2:=an ab4;omega);have E3:=aq e3;clear e3 hd;go_wp2_with fail;refine(an E2).mono ?_;rintro e w3 ⟨rfl,rfl⟩;go_wp2_with fail;refine(an E3).mono ?_;rintro e w4 ⟨rfl,m',c1,c2,W0,W1,hcL2,f1,f2,H5⟩
  have PD:=aq H5;have afy:=aq hcL2;clear H5 hcL2;go_wp2_with fail
  go_end0
  refine⟨rfl,kS++m'::lh,b8++c1::c2::cq,W0,W1,?_,by simp,by simp,by have h1:=an Tq;have h2:=an rj;have h3:=an Uf;simp;omega,fun x hx=>?_,an PD⟩
  ·rw[an Tp];simp only[map_append,map_cons];rw[AR (an VU).1 (an VU).2,an afy]
  ·simp only[mem_append,mem_cons]at hx
   rcases hx with hx|rfl|rfl|hx
   ·exact an Hf x (by simp[hx])
   ·exact f1
   ·exact f2
   ·exact an Hf x (by simp[hx])
 ·have hd:decide (3<on)=false:=by simp[hov4]
  rw[hd]at E2;clear hd;go_wp2_with fail;refine(an E2).mono ?_;rintro e w3 ⟨rfl,rfl⟩;go_wp2_with fail
  go_end0
  refine⟨rfl,kS++lh,b8++c::cq,V0,.slice (some ⟨g2,0,none⟩) (N-1) cap2,(an Tp).symm,by simp,by simp;omega,by have h1:=an Tq;have h2:=an rj;have h3:=an Uf;simp;omega,fun x hx=>?_,an ri⟩;simp only[mem_append,mem_cons]at hx
  rcases hx with hx|rfl|hx
  ·exact an Hf x (by simp[hx])
  ·have h1:=an Ho3;have h2:=an ab4;exact⟨by omega,by omega⟩
  ·exact an Hf x (by simp[hx])
theorem NU (au:Nat) (w0:World) (K0:Nat->Nat) (w:World) (b h at':Nat) (aQ:List aG) (aM:List bQ) (c:bQ) (v0 v1:Value) (l2:List aI)
 (H:aw au w0 K0 w (aK b v0 v1::aO v0 aQ::bg v1 aM::.subs h aM::l2)) (hk:aM[at']? = some c) (hc:1<=c.c) (WJ:c.c<=4) (hl:aM.length<=10):
 Calls prog 262 #[.pointer (some ⟨b,0,none⟩),.int .i64 at'] w fun e w'=>e=.returned (.tuple #[])/\w'=w:=by
 obtain⟨N,hN⟩:=aa aM.length;have r1:w.ownsRow au 190 1 v1 N (aM.map fun y=>bK y.b):=by rw[<-hN];exact H.rowAt (by simp[bg])
 have abe:at'<N:=by rw[<-hN];exact(List.getElem?_eq_some_iff.1 hk).1
 obtain⟨g1,cap1,rfl,kE,Dq⟩:=aZ r1 (by omega);have p1:=fI r1 (j:=at') (k:=c) hk;have q1:w.cell? ⟨b,1,none⟩=some (.slice (some ⟨g1,0,none⟩) N cap1):=H.cellAt (t:=241) (vs:=[v0,.slice (some ⟨g1,0,none⟩) N cap1]) (by simp[aK]) rfl
 have gZ:∃u0 p cu,w.cell? ⟨c.b,0,none⟩=some u0/\u0=.slice p c.c cu:=by
  have nr:Sub au w h c:=H.sat (.subs h aM) (by simp) c (mem_of_getElem? hk);obtain⟨aQ,aM,u0,u1,hn,_,_⟩:=nr.open;have Dv:=hn.items;rw[<-hn.c]at Dv;refine⟨u0,?_⟩
  rcases Dv.2 with⟨h1,h2⟩|⟨g,aU,cur,h1,_⟩
  ·omega
  ·exact⟨_,aU,by rw[cell_of_row w c.b 0 _ 241 (0,0) hn.cell];rfl,h1⟩
 obtain⟨u0,pu,cu,q2,rfl⟩:=gZ;have haz:(at':Int)<(N:Int):=by omega
 have hcz:(1:Int)<=(c.c:Int):=by omega
 clear H r1 hk hN hl;go_enter func262,ntmps262;go_wp2_with fail;refine bodyPost_ret (results_none rfl _ _ _) rfl ?_;exact⟨rfl,rfl⟩
theorem AK (au:Nat) (w0:World) (K0:Nat->Nat) (w:World) (b h at':Nat) (aQ:List aG) (aM:List bQ) (c:bQ) (v0 v1:Value) (l2:List aI)
 (H:aw au w0 K0 w (aK b v0 v1::aO v0 aQ::bg v1 aM::.subs h aM::l2)) (J1:aM.length=aQ.length+1) (rY:1<=aQ.length) (Gf:aQ.length<=3) (hk:aM[at']? = some c) (hc:c.c<=3) (hf:∀j x,aM[j]? = some x->j≠at'->Fit x):
 Calls prog 262 #[.pointer (some ⟨b,0,none⟩),.int .i64 at'] w fun e w'=>FU au w0 K0 b h (inter aQ (aM.map bQ.L)) aQ.length l2 e w':=by
 have iV:at'<aM.length:=(List.getElem?_eq_some_iff.1 hk).1
 rcases Nat.eq_zero_or_pos c.c with h0|h0
 ·by_cases eO:at'<aQ.length
  ·
   have e1:aQ=aQ.take at'++aQ[at']::aQ.drop (at'+1):=by rw[<-drop_eq_getElem_cons eO,take_append_drop]
   have abg:at'+1<aM.length:=by omega
   have e2:aM=aM.take at'++c::aM[at'+1]::aM.drop (at'+1+1):=by obtain⟨h1,h2⟩:=List.getElem?_eq_some_iff.1 hk;rw[<-drop_eq_getElem_cons abg,<-h2,<-drop_eq_getElem_cons h1,take_append_drop]
   have hfh:Fit aM[at'+1]:=hf (at'+1) _ (getElem?_eq_getElem abg) (by omega);rw[e1,e2]at H
   have az:=Ik au w0 K0 w b h at' at' (aQ.take at') (aQ.drop (at'+1)) aQ[at'] (aM.take at') (aM.drop (at'+1+1)) c aM[at'+1] c v0 v1 l2 H (by rw[length_take];omega) (by rw[length_take];omega) (by simp;omega) (by rw[<-e1];exact Gf) (.inl ⟨rfl,rfl⟩) h0 (by have:=hfh.1;have:=hfh.2;omega) (fun x hx=>by
    rcases mem_append.1 hx with h1|h1
    ·obtain⟨j,hj,rfl⟩:=List.mem_iff_getElem.1 h1;rw[length_take]at hj;exact hf j _ (by rw[getElem_take];exact getElem?_eq_getElem (by omega)) (by omega)
    ·obtain⟨j,hj,rfl⟩:=List.mem_iff_getElem.1 h1;rw[length_drop]at hj;exact hf (at'+1+1+j) _ (by rw[getElem_drop];exact getElem?_eq_getElem (by omega)) (by omega))
   rw[<-e1,<-e2]at az;exact az
  ·
   have abf:at'=aQ.length:=by omega
   obtain⟨i,hi⟩:∃i,at'=i+1:=⟨at'-1,by omega⟩;have Cc:i<aQ.length:=by omega
   have e1:aQ=aQ.take i++aQ[i]::aQ.drop (i+1):=by rw[<-drop_eq_getElem_cons Cc,take_append_drop]
   have Dt:i<aM.length:=by omega
   have aez:i+1<aM.length:=by omega
   have e2:aM=aM.take i++aM[i]::c::aM.drop (i+1+1):=by
    obtain⟨h1,h2⟩:=List.getElem?_eq_some_iff.1 hk;have h3:aM[i+1]=c:=by rw[<-h2];congr 1;omega
    rw[<-h3,<-drop_eq_getElem_cons aez,<-drop_eq_getElem_cons Dt,take_append_drop]
   have hfh:Fit aM[i]:=hf i _ (getElem?_eq_getElem Dt) (by omega);rw[e1,e2]at H
   have az:=Ik au w0 K0 w b h i at' (aQ.take i) (aQ.drop (i+1)) aQ[i] (aM.take i) (aM.drop (i+1+1)) aM[i] c c v0 v1 l2 H (by rw[length_take];omega) (by rw[length_take];omega) (by simp;omega) (by rw[<-e1];exact Gf) (.inr ⟨hi,rfl,drop_eq_nil_of_le (by omega)⟩) h0 (by have:=hfh.1;have:=hfh.2;omega) (fun x hx=>by
    rcases mem_append.1 hx with h1|h1
    ·obtain⟨j,hj,rfl⟩:=List.mem_iff_getElem.1 h1;rw[length_take]at hj;exact hf j _ (by rw[getElem_take];exact getElem?_eq_getElem (by omega)) (by omega)
    ·rw[drop_eq_nil_of_le (by omega)]at h1;simp at h1)
   rw[<-e1,<-e2]at az;exact az
 ·refine(NU au w0 K0 w b h at' aQ aM c v0 v1 l2 H hk h0 (by omega) (by omega)).mono ?_;rintro e w' ⟨rfl,rfl⟩;refine⟨rfl,aQ,aM,v0,v1,rfl,Nat.le_refl _,Nat.le_succ _,J1,fun x hx=>?_,H⟩;obtain⟨j,hj,rfl⟩:=List.mem_iff_getElem.1 hx
  by_cases hja:j=at'
  ·subst hja;have h1:some aM[j]=some c:=by rw[<-hk];exact(getElem?_eq_getElem hj).symm
   have h2:=Option.some.inj h1;rw[h2];exact⟨h0,hc⟩
  ·exact hf j _ (getElem?_eq_getElem hj) hja
def oz (au:Nat) (w0:World) (K0:Nat->Nat) (h:Nat) (k:bQ) (l2:List aI) (e:Ending) (w':World):Prop:=
 ∃(x:aG) (k':bQ),e=.returned (.agg #[.string x.az,.string x.name,.int .i64 x.aN])/\k'.b=k.b/\k.L=k'.L++[x]/\k'.c<=k.c/\k.c<=k'.c+1/\aw au w0 K0 w' (.sub h k'::l2)
def wh (h:Nat):Prop:=∀(au:Nat) (w0:World) (K0:Nat->Nat) (w:World) (k:bQ) (l2:List aI),aw au w0 K0 w (.sub h k::l2)->1<=k.c->k.c<=3->
 Calls prog 261 #[.pointer (some ⟨k.b,0,none⟩)] w fun e w'=>oz au w0 K0 h k l2 e w'
theorem vd {fn:Func} {p:Tmp} (h:fn.results=#[.cell p 238]) (tmps:Array Value) (w:World) (g:Nat) (t:TypeId) (a b c:Value)
 (hp:tmps.getD p undef=.pointer (some ⟨g,0,none⟩)) (hg:w.heap[g]? = some (.cells #[a,b,c] t (0,0))):
 (results fn tmps).run prog w=.ok (.agg #[a,b,c]) w:=
 results_cell_row h tmps w g t #[a,b,c] (0,0) _ hp hg underlying238 rfl (by kernel_rfl)
def ic:List Value:=[.string ⟨#[]⟩,.string ⟨#[]⟩,.int .i64 0]
theorem CG (au:Nat) (w0:World) (K0:Nat->Nat) (w:World) (k:bQ) (l2:List aI) (H:aw au w0 K0 w (.sub 0 k::l2)) (kE:1<=k.c) (Vb:k.c<=3):
 Calls prog 261 #[.pointer (some ⟨k.b,0,none⟩)] w fun e w'=>oz au w0 K0 0 k l2 e w':=by
 obtain⟨aQ,aM,v0,v1,kD,hL,gX,fQ,H1⟩:=H.open [];simp only[nil_append]at H1;have jd:aM=[]:=by rcases gX with⟨_,h⟩|⟨h,_⟩;exact h;omega
 subst jd;obtain⟨b,hb⟩:=aa k.b;rw[hb]at H1 ⊢;obtain⟨a,x,eP⟩:∃a x,aQ=a++[x]:=⟨aQ.dropLast,aQ.getLast (by intro h;rw[h]at kD;simp at kD;omega),(dropLast_concat_getLast _).symm⟩;subst eP;obtain⟨i,hi⟩:=aa a.length;obtain⟨n,hn⟩:=aa ((a++[x]).length);have y8:n=i+1:=by rw[<-hn];simp[hi]
 have mg:au<=w.heap.size:=H1.low (b:=b) (t:=241) (vs:=[v0,v1]) (by simp[aK]);have H2:=H1.aY mg 238 ic;obtain⟨rb,wF⟩:=aa w.heap.size;have r0:w.ownsRow au 238 3 v0 n (flat (a++[x])):=by rw[<-hn];exact H1.rowAt (by simp[aO])
 obtain⟨g0,cap0,rfl,lv,hm0⟩:=aZ r0 (by omega);generalize iD:w.alloc (.cells ic.toArray 238)=w1 at H2;rw[wF]at H2;have q0:w1.cell? ⟨b,0,none⟩=some (.slice (some ⟨g0,0,none⟩) n cap0):=H2.cellAt (t:=241) (vs:=[.slice (some ⟨g0,0,none⟩) n cap0,v1]) (by simp[aK]) rfl;have q1:w1.cell? ⟨b,1,none⟩=some v1:=H2.cellAt (t:=241) (vs:=[.slice (some ⟨g0,0,none⟩) n cap0,v1]) (by simp[aK]) rfl;have e1:=fj b (.slice none 0 0) v1 0 w1 q1 au [] (H2.rowAt (by simp[bg])) (by omega);have rr:w1.ownsRow au 238 3 (.slice (some ⟨g0,0,none⟩) n cap0) n (flat (a++[x])):=by rw[<-hn];exact H2.rowAt (by simp[aO,hn])
 obtain⟨s1,s2,s3⟩:=iT rr (j:=i) (x:=x) (by rw[<-hi];simp);have E1:=aq e1;have ri:=aq H2;have zq:(n:Int)-1=(i:Int):=by omega
 have mI:(i:Int)<(n:Int):=by omega
 have Ge:n<=3:=by omega
 have oQ:∀o,(w1.alloc o).cell? ⟨b,0,none⟩=some (.slice (some ⟨g0,0,none⟩) n cap0):=fun o=>Lib.cell?_alloc_some _ q0
 have Hn:=aq hn;have M6:=aq y8;have Hi:=aq hi;have HL:=aq hL;have oZ:=aq kD;have Hb:=aq hb;have KH:w.alloc (Obj.cells #[Value.string ⟨#[]⟩,Value.string ⟨#[]⟩,Value.int IntKind.i64 0] 238)=w1:=iD;clear e1 H H1 H2 hn y8 hi hL kD hb gX fQ r0 rr iD;go_enter func261,ntmps261;go_wp2_with fail;clear KH wF;refine(an E1).mono ?_;rintro e w2 ⟨rfl,rfl⟩;simp only[decide_true];go_wp2_with fail;have tt:au<=w2.heap.size:=(an ri).low (b:=rb) (t:=238) (vs:=ic) (by simp);have H3:=(an ri).aY tt 238 (cellsOf x);have e3:=qB [.cell w2.heap.size 238 (cellsOf x),.cell rb 238 ic,aK b (.slice (some ⟨g0,0,none⟩) n cap0) v1] (a:=a) (m:=x) (c:=[]) H3 (an Hi) (an Hn) (by omega)
 rw[show((i:Int)+1)=(n:Int)from by have:=an M6;omega]at e3;generalize PW:w2.heap.size=lb at e3 ⊢;refine e3.mono ?_;clear e3 H3 PW;rintro e w4 ⟨g4,cap4,rfl,WJ,hm4,H4⟩;simp only[cons_append,nil_append,append_nil]at H4;have k0:w4.cell? ⟨b,0,none⟩=some (.slice (some ⟨g0,0,none⟩) n cap0):=H4.cellAt (t:=241) (vs:=[.slice (some ⟨g0,0,none⟩) n cap0,v1]) (by simp[aK]) rfl;have kf:w4.frozen? ⟨b,0,none⟩=false:=H4.frozenAt (t:=241) (vs:=[.slice (some ⟨g0,0,none⟩) n cap0,v1]) (by simp[aK]) 0;have H5:=H4.store [.cell lb 238 (cellsOf x),.cell rb 238 ic] 0 (.slice (some ⟨g4,0,none⟩) (n-1) cap4) _ rfl
 simp only[cons_append,nil_append,set_cons_zero]at H5;obtain⟨w5,hw5⟩:=aa (w4.setCell ⟨b,0,none⟩ (.slice (some ⟨g4,0,none⟩) (n-1) cap4));rw[hw5]at H5;have l0:w5.cell? ⟨lb,0,none⟩=some (.string x.az):=H5.cellAt (t:=238) (vs:=cellsOf x) (by simp) rfl;have l1:w5.cell? ⟨lb,1,none⟩=some (.string x.name):=H5.cellAt (t:=238) (vs:=cellsOf x) (by simp) rfl;have Zc:w5.cell? ⟨lb,2,none⟩=some (.int .i64 x.aN):=H5.cellAt (t:=238) (vs:=cellsOf x) (by simp) rfl;have m0:w5.cell? ⟨rb,0,none⟩=some (.string ⟨#[]⟩):=H5.cellAt (t:=238) (vs:=ic) (by simp) rfl
 have m1:w5.cell? ⟨rb,1,none⟩=some (.string ⟨#[]⟩):=H5.cellAt (t:=238) (vs:=ic) (by simp) rfl;have m2:w5.cell? ⟨rb,2,none⟩=some (.int .i64 0):=H5.cellAt (t:=238) (vs:=ic) (by simp) rfl;have f0:w5.frozen? ⟨rb,0,none⟩=false:=H5.frozenAt (t:=238) (vs:=ic) (by simp) 0;have f1:w5.frozen? ⟨rb,1,none⟩=false:=H5.frozenAt (t:=238) (vs:=ic) (by simp) 1;have f2:w5.frozen? ⟨rb,2,none⟩=false:=H5.frozenAt (t:=238) (vs:=ic) (by simp) 2;have H6:=aq (((H5.store [.cell lb 238 (cellsOf x)] 0 (.string x.az) _ rfl).store [.cell lb 238 (cellsOf x)] 1 (.string x.name) _ rfl).store [.cell lb 238 (cellsOf x)] 2 (.int .i64 x.aN) _ rfl)
 clear H4 H5 ri E1 q0 q1 s1 s2 s3 oQ;go_wp2_with fail;have h6:=an H6;simp only[cons_append,nil_append,set_cons_zero,set_cons_succ,ic]at h6;refine bodyPost_ret (vd (p:=2) rfl _ _ rb 238 (.string x.az) (.string x.name) (.int .i64 x.aN) rfl (h6.sat (.cell rb 238 [.string x.az,.string x.name,.int .i64 x.aN]) (by simp)).2) rfl ?_;have h7:=(h6.aD []).aD [];obtain⟨k',b1,n1,L1,h8⟩:=h7.shut [] (h:=0) (.inl ⟨rfl,rfl⟩) (by simp);refine⟨x,k',rfl,by rw[b1];exact(an Hb).symm,?_,?_,?_,h8⟩
 ·rw[an HL,L1];simp[cJ]
 ·rw[n1,an oZ];simp
 ·rw[n1,an oZ];simp
theorem Bz (h:Nat) (ih:wh h) (au:Nat) (w0:World) (K0:Nat->Nat) (w:World) (k:bQ) (l2:List aI) (H:aw au w0 K0 w (.sub (h+1) k::l2)) (kE:1<=k.c) (Vb:k.c<=3):
 Calls prog 261 #[.pointer (some ⟨k.b,0,none⟩)] w fun e w'=>oz au w0 K0 (h+1) k l2 e w':=by
 obtain⟨aQ,aM,v0,v1,kD,hL,gX,fQ,H1⟩:=H.open [];simp only[nil_append,Nat.add_sub_cancel]at H1;have jd:aM.length=aQ.length+1:=by rcases gX with⟨h,_⟩|⟨_,h⟩;omega;exact h
 obtain⟨b,hb⟩:=aa k.b;rw[hb]at H1 ⊢;obtain⟨ks,kk,bV⟩:∃ks kk,aM=ks++[kk]:=⟨aM.dropLast,aM.getLast (by intro h;rw[h]at jd;simp at jd),(dropLast_concat_getLast _).symm⟩;subst bV;obtain⟨n,hn⟩:=aa aQ.length;have hks:ks.length=n:=by simp at jd;omega
 have mg:au<=w.heap.size:=H1.low (b:=b) (t:=241) (vs:=[v0,v1]) (by simp[aK]);have H2:=H1.aY mg 238 ic;obtain⟨rb,wF⟩:=aa w.heap.size;have r0:w.ownsRow au 238 3 v0 n (flat aQ):=by rw[<-hn];exact H1.rowAt (by simp[aO])
 obtain⟨g0,cap0,rfl,lv,hm0⟩:=aZ r0 (by omega);generalize iD:w.alloc (.cells ic.toArray 238)=w1 at H2;rw[wF]at H2;have r1:w1.ownsRow au 190 1 v1 (n+1) ((ks++[kk]).map fun y=>bK y.b):=by rw[show n+1=(ks++[kk]).length by simp[hks]];exact H2.rowAt (by simp[bg])
 obtain⟨g1,cap1,rfl,CD,Dq⟩:=aZ r1 (by omega);have p1:=fI r1 (j:=n) (k:=kk) (by rw[<-hks];simp);have q0:w1.cell? ⟨b,0,none⟩=some (.slice (some ⟨g0,0,none⟩) n cap0):=H2.cellAt (t:=241) (vs:=[.slice (some ⟨g0,0,none⟩) n cap0,.slice (some ⟨g1,0,none⟩) (n+1) cap1]) (by simp[aK]) rfl;have q1:w1.cell? ⟨b,1,none⟩=some (.slice (some ⟨g1,0,none⟩) (n+1) cap1):=H2.cellAt (t:=241) (vs:=[.slice (some ⟨g0,0,none⟩) n cap0,.slice (some ⟨g1,0,none⟩) (n+1) cap1]) (by simp[aK]) rfl;have e1:=fj b (.slice none 0 0) _ (n+1) w1 q1 au _ r1 (by omega)
 rw[show decide (n+1=0)=false from by simp]at e1;have Ce:Fit kk:=fQ kk (by simp);have h3:=(H2.take [.cell rb 238 ic,aK b (.slice (some ⟨g0,0,none⟩) n cap0) (.slice (some ⟨g1,0,none⟩) (n+1) cap1),aO (.slice (some ⟨g0,0,none⟩) n cap0) aQ,bg (.slice (some ⟨g1,0,none⟩) (n+1) cap1) (ks++[kk])]).front [.cell rb 238 ic,aK b (.slice (some ⟨g0,0,none⟩) n cap0) (.slice (some ⟨g1,0,none⟩) (n+1) cap1),aO (.slice (some ⟨g0,0,none⟩) n cap0) aQ,bg (.slice (some ⟨g1,0,none⟩) (n+1) cap1) (ks++[kk])];simp only[cons_append,nil_append]at h3
 have e2:=ih au w0 K0 w1 kk _ h3 Ce.1 Ce.2;have E1:=aq e1;have E2:=aq e2;have Ge:n<=3:=by omega
 have Mw:1<=n:=by omega
 have XY:(n:Int)<(n:Int)+1:=by omega
 have Hn:=aq hn;have Hks:=aq hks;have HL:=aq hL;have oZ:=aq kD;have Hb:=aq hb;have lq:=aq fQ;have X7:=Ce.2;have KH:w.alloc (Obj.cells #[Value.string ⟨#[]⟩,Value.string ⟨#[]⟩,Value.int IntKind.i64 0] 238)=w1:=iD;clear e1 e2 H H1 H2 hn hks hL kD hb gX fQ r0 r1 iD ih h3 jd Ce;go_enter func261,ntmps261;go_wp2_with fail;clear KH wF;refine(an E1).mono ?_;rintro e w2 ⟨rfl,rfl⟩;go_wp2_with fail;refine(an E2).mono ?_;rintro e w3 ⟨x,iC,rfl,cC,hLx,hcx1,hcx2,H4⟩
 have H5:aw au w0 K0 w3 (.cell rb 238 ic::aK b (.slice (some ⟨g0,0,none⟩) n cap0) (.slice (some ⟨g1,0,none⟩) (n+1) cap1)::aO (.slice (some ⟨g0,0,none⟩) n cap0) aQ::bg (.slice (some ⟨g1,0,none⟩) (n+1) cap1) (ks++[iC])::.subs h (ks++[iC])::l2):=by have e:bg (.slice (some ⟨g1,0,none⟩) (n+1) cap1) (ks++[kk])=bg (.slice (some ⟨g1,0,none⟩) (n+1) cap1) (ks++[iC]):=mX (by simp[cC]);rw[e]at H4;have h5:=(((H4.front [_,_,_,_]).front [_,_,_,_]).front [_,_,_,_]).front [_,_,_,_];have h6:=h5.OP [_,_,_,_] (h:=h) ks [];exact h6
 have hQ:au<=w3.heap.size:=H5.low (b:=rb) (t:=238) (vs:=ic) (by simp);have H6:=H5.aY hQ 238 (cellsOf x);generalize PW:w3.heap.size=lb at H6 ⊢;generalize qy:w3.alloc (.cells (cellsOf x).toArray 238)=w4 at H6;have aam:w3.alloc (Obj.cells #[Value.string x.az,Value.string x.name,Value.int IntKind.i64 x.aN] 238)=w4:=qy
 have e5:=AK au w0 K0 w4 b h n aQ (ks++[iC]) iC (.slice (some ⟨g0,0,none⟩) n cap0) (.slice (some ⟨g1,0,none⟩) (n+1) cap1) (.cell lb 238 (cellsOf x)::.cell rb 238 ic::l2) (H6.conv (fun y=>by simp only[ax];omega) (fun r hr=>H6.sat r (by
  simp only[mem_cons]at hr ⊢
  rcases hr with h|h|h|h|h|h|h
  ·exact .inr (.inr (.inl h))
  ·exact .inr (.inr (.inr (.inl h)))
  ·exact .inr (.inr (.inr (.inr (.inl h))))
  ·exact .inr (.inr (.inr (.inr (.inr (.inl h)))))
  ·exact .inl h
  ·exact .inr (.inl h)
  ·exact .inr (.inr (.inr (.inr (.inr (.inr h)))))))) (by have h1:=an Hks;have h2:=an Hn;simp;omega) (by have:=an Hn;omega) (by have:=an Hn;omega) (by rw[<-an Hks];simp) (by omega) (fun j y hj PX=>by
  have h1:j<ks.length:=by have h2:=(List.getElem?_eq_some_iff.1 hj).1;have h3:=an Hks;simp at h2;omega
  rw[getElem?_append_left h1]at hj;exact an lq y (by simp[mem_of_getElem? hj]))
 have E5:=aq e5;have HLx:=aq hLx;clear e5 H4 H5 H6 E1 E2 qy hLx q0 q1 p1;go_wp2_with fail;refine(an E5).mono ?_;clear aam PW;rintro e w6 ⟨rfl,qX,kids',V0,V1,hM,hlen1,RJ,J1,RQ,H7⟩;have l0:w6.cell? ⟨lb,0,none⟩=some (.string x.az):=H7.cellAt (t:=238) (vs:=cellsOf x) (by simp) rfl;have l1:w6.cell? ⟨lb,1,none⟩=some (.string x.name):=H7.cellAt (t:=238) (vs:=cellsOf x) (by simp) rfl;have Zc:w6.cell? ⟨lb,2,none⟩=some (.int .i64 x.aN):=H7.cellAt (t:=238) (vs:=cellsOf x) (by simp) rfl;have m0:w6.cell? ⟨rb,0,none⟩=some (.string ⟨#[]⟩):=H7.cellAt (t:=238) (vs:=ic) (by simp) rfl
 have m1:w6.cell? ⟨rb,1,none⟩=some (.string ⟨#[]⟩):=H7.cellAt (t:=238) (vs:=ic) (by simp) rfl;have m2:w6.cell? ⟨rb,2,none⟩=some (.int .i64 0):=H7.cellAt (t:=238) (vs:=ic) (by simp) rfl;have f0:w6.frozen? ⟨rb,0,none⟩=false:=H7.frozenAt (t:=238) (vs:=ic) (by simp) 0;have f1:w6.frozen? ⟨rb,1,none⟩=false:=H7.frozenAt (t:=238) (vs:=ic) (by simp) 1;have f2:w6.frozen? ⟨rb,2,none⟩=false:=H7.frozenAt (t:=238) (vs:=ic) (by simp) 2;have H8:=(((H7.store [aK b V0 V1,aO V0 qX,bg V1 kids',.subs h kids',.cell lb 238 (cellsOf x)] 0 (.string x.az) _ rfl).store [aK b V0 V1,aO V0 qX,bg V1 kids',.subs h kids',.cell lb 238 (cellsOf x)] 1 (.string x.name) _ rfl).store [aK b V0 V1,aO V0 qX,bg V1 kids',.subs h kids',.cell lb 238 (cellsOf x)] 2 (.int .i64 x.aN) _ rfl)
 have Y3:=aq H8;have HM:=aq hM;have Hl1:=aq hlen1;have Hl2:=aq RJ;have Hkl:=aq J1;have ab1:=aq RQ;clear H7 H8 hM hlen1 RJ J1 RQ E5;go_wp2_with fail;have h6:=an Y3;simp only[cons_append,nil_append,set_cons_zero,set_cons_succ,ic]at h6;refine bodyPost_ret (vd (p:=2) rfl _ _ rb 238 (.string x.az) (.string x.name) (.int .i64 x.aN) rfl (h6.sat (.cell rb 238 [.string x.az,.string x.name,.int .i64 x.aN]) (by simp)).2) rfl ?_;have h7:=(h6.aD [aK b V0 V1,aO V0 qX,bg V1 kids',.subs h kids']).aD [aK b V0 V1,aO V0 qX,bg V1 kids',.subs h kids']
 obtain⟨k',b1,n1,L1,h8⟩:=h7.shut [] (h:=h+1) (.inr ⟨by omega,an Hkl⟩) (an ab1);refine⟨x,k',rfl,by rw[b1];exact(an Hb).symm,?_,?_,?_,h8⟩
 ·rw[an HL,L1,an HM];have hl:aQ.length=(ks.map bQ.L).length:=by have h1:=an Hn;have h2:=an Hks;simp;omega
  have e1:=dj aQ (ks.map bQ.L) [] kk.L [] hl rfl;have e2:=dj aQ (ks.map bQ.L) [] iC.L [] hl rfl;simp only[append_nil]at e1 e2;simp only[map_append,map_cons,map_nil];rw[e1,e2,an HLx];simp[post]
 ·rw[n1,an oZ];exact an Hl1
 ·rw[n1,an oZ];exact an Hl2
theorem tP:∀h,wh h
 | 0=>fun au w0 K0 w k l2 H h1 h3=>CG au w0 K0 w k l2 H h1 h3
 |h+1=>fun au w0 K0 w k l2 H h1 h3=>Bz h (tP h) au w0 K0 w k l2 H h1 h3
end Go.Proofs.YtphcnmlbieokoaaGreatDoor.T
