import Derived.Test.YtphcnmlbieokoaaGreatDoorC7
import Derived.Test.YtphcnmlbieokoaaGreatDoorC14
import Derived.Lib.SplitLaws
import Derived.Lib.IndexBytes
import Derived.Shelf.SlSortCmp.NoneTotal
set_option maxRecDepth 100000
set_option maxHeartbeats 16000000
set_option linter.unusedVariables false
set_option linter.unusedSimpArgs false
namespace Go.Proofs.YtphcnmlbieokoaaGreatDoor.T
open Go.RowKit List
section
inductive nU (N:List NV):Int->Prop
 |root:nU N 1
 |up {v:NV}:v∈N->v.aA=1->nU N v.up->nU N v.id
inductive On (N:List NV):Int->Int->Prop
 |here (j:Int):On N j j
 |up {v:NV} {i:Int}:v∈N->v.aA=1->On N v.up i->On N v.id i
def b9 (E:List (Int×aG)) (i:Int):Nat:=E.countP fun x=>x.2.aN==i
structure cU (N:List NV) (E:List (Int×aG)):Prop where
 nodup:(N.map NV.id).Nodup
 root:∃r∈N,r.id=1/\r.aA=1/\r.up=1
 kinds:∀v∈N,(v.aA=1/\v.aB=1/\v.aL=⟨#[]⟩)∨(v.aA=2/\v.up=0/\v.aL.size<=20)
 named:∀x∈E,x.2.aN≠1/\∃v∈N,v.id=x.2.aN
 aP:∀x∈E,∃u∈N,u.id=x.1/\u.aA=1
 pY:∀v∈N,v.id≠1->(b9 E v.id:Int)=v.aB/\1<=v.aB
 ups:∀v∈N,v.aA=1->v.id≠1->∃it,(v.up,it)∈E/\it.aN=v.id
 Ba:∀v∈N,v.aA=1->nU N v.id
variable {N:List NV} {E:List (Int×aG)}
theorem cU.perm (h:cU N E) {E':List (Int×aG)} (hp:E.Perm E'):cU N E':=
 ⟨h.nodup,h.root,h.kinds,fun x hx=>h.named x (hp.mem_iff.2 hx),fun x hx=>h.aP x (hp.mem_iff.2 hx),fun v hv h1=>by
  unfold b9;rw[<-hp.countP_eq];exact h.pY v hv h1,fun v hv hk h1=>by
  obtain⟨it,h2,h3⟩:=h.ups v hv hk h1;exact⟨it,hp.mem_iff.1 h2,h3⟩,h.Ba⟩
theorem ja (hn:(N.map NV.id).Nodup) {u v:NV} (hu:u∈N) (hv:v∈N) (h:u.id=v.id):u=v:=by
 have h1:=fZ hn hu;have h2:=fZ hn hv;rw[h,h2]at h1;exact(Option.some.inj h1).symm
theorem gB (hn:(N.map NV.id).Nodup) {v:NV} (hv:v∈N):bW N v.id=v:=by unfold bW;rw[fZ hn hv];rfl
theorem bh {v x:NV}:x∈dH N v↔x=v∨(x∈N/\x.id≠v.id):=by
 unfold dH
 split
 ·rename_i h
  rw[mem_map]
  constructor
  ·rintro⟨y,hy,he⟩
   split at he
   ·exact .inl he.symm
   ·rename_i dr
    subst he;exact .inr ⟨hy,by simpa using dr⟩
  ·rintro(rfl|⟨hx,dr⟩)
   ·unfold bq at h;rw[find?_isSome]at h;obtain⟨y,hy,he⟩:=h;exact⟨y,hy,by rw[if_pos (by simpa using he)]⟩
   ·exact⟨x,hx,by rw[if_neg (by simpa using dr)]⟩
 ·rename_i h
  have h0:bq N v.id=none:=by cases hf:bq N v.id with|none=>rfl|some x=>rw[hf]at h;simp at h
  rw[mem_append,mem_singleton]
  constructor
  ·rintro(hx|rfl)
   ·exact .inr ⟨hx,lK h0 x hx⟩
   ·exact .inl rfl
  ·rintro(rfl|⟨hx,_⟩)
   ·exact .inr rfl
   ·exact .inl hx
theorem dK {i:Int} {x:NV}:x∈lN N i↔x∈N/\x.id≠i:=by
 unfold lN;rw[mem_filter];simp
theorem Ll (h:(N.map NV.id).Nodup) (i:Int):((lN N i).map NV.id).Nodup:=by
 have e:(lN N i).map NV.id=(N.map NV.id).filter fun x=>!(x==i):=by unfold lN;rw[filter_map];rfl
 rw[e];exact h.filter _
theorem nU.mono {M:List NV} {j:Int} (h:nU N j) (hs:∀v∈N,v.aA=1->∃v'∈M,v'.id=v.id/\v'.aA=1/\v'.up=v.up):nU M j:=by
 induction h with
 |root=>exact .root
 |up hv hk _ ih=>obtain⟨v',h1,h2,h3,h4⟩:=hs _ hv hk;rw[<-h2];exact .up h1 h3 (by rw[h4];exact ih)
theorem cU.Fu (h:cU N E) {v:NV} (hv:v∈N) (hk:v.aA=2):v.id≠1:=by
 intro e;obtain⟨r,hr,h1,h2,_⟩:=h.root;have:=ja h.nodup hv hr (by rw[e,h1]);rw[this,h2]at hk;exact absurd hk (by decide)
theorem lD (x:Int×aG) (E:List (Int×aG)) (i:Int):b9 (x::E) i=b9 E i+if x.2.aN=i then 1 else 0:=by
 unfold b9;rw[countP_cons];simp
theorem cU.NK (h:cU N E) {i:Int} (hi:bq N i=none):b9 E i=0:=by
 unfold b9;rw[countP_eq_zero];intro x hx he;obtain⟨_,v,hv,h1⟩:=h.named x hx;exact lK hi v hv (by rw[h1];simpa using he)
theorem cU.add (h:cU N E) {v u:NV} (hi:bq N v.id=none) (Cd:v.id≠1) (hu:u∈N) (hk:u.aA=1)
 (oh:(v.aA=1/\v.aB=1/\v.aL=⟨#[]⟩/\v.up=u.id)∨(v.aA=2/\v.up=0/\v.aL.size<=20/\v.aB=1)) {it:aG} (hit:it.aN=v.id):cU (dH N v) ((u.id,it)::E):=by
 have dr:∀x∈N,x.id≠v.id:=fun x hx=>lK hi x hx
 have hl:v.aB=1:=by
  rcases oh with h1|h1
  ·exact h1.2.1
  ·exact h1.2.2.2
 have yW:∀x∈N,x∈dH N v:=fun x hx=>bh.2 (.inr ⟨hx,dr x hx⟩)
 have Wr:∀j,nU N j->nU (dH N v) j:=fun j hj=>hj.mono fun x hx hk=>⟨x,yW x hx,rfl,hk,rfl⟩
 refine⟨lE h.nodup v,?_,fun x hx=>?_,fun x hx=>?_,fun x hx=>?_,fun x hx h1=>?_,fun x hx ll h1=>?_,fun x hx ll=>?_⟩
 ·obtain⟨r,hr,h1⟩:=h.root;exact⟨r,yW r hr,h1⟩
 ·rcases bh.1 hx with rfl|⟨hx,_⟩
  ·rcases oh with h1|h1
   ·exact .inl ⟨h1.1,h1.2.1,h1.2.2.1⟩
   ·exact .inr ⟨h1.1,h1.2.1,h1.2.2.1⟩
  ·exact h.kinds x hx
 ·rcases mem_cons.1 hx with rfl|hx
  ·exact⟨by simp only;rw[hit];exact Cd,v,bh.2 (.inl rfl),hit.symm⟩
  ·obtain⟨h1,y,hy,h2⟩:=h.named x hx;exact⟨h1,y,yW y hy,h2⟩
 ·rcases mem_cons.1 hx with rfl|hx
  ·exact⟨u,yW u hu,rfl,hk⟩
  ·obtain⟨y,hy,h2⟩:=h.aP x hx;exact⟨y,yW y hy,h2⟩
 ·rw[lD]
  rcases bh.1 hx with rfl|⟨hx,hxne⟩
  ·rw[h.NK hi,if_pos hit,hl];exact⟨rfl,by decide⟩
  ·rw[if_neg (by rw[hit];exact fun e=>hxne e.symm),Nat.add_zero];exact h.pY x hx h1
 ·rcases bh.1 hx with rfl|⟨hx,hxne⟩
  ·rcases oh with h2|h2
   ·exact⟨it,by rw[h2.2.2.2];exact mem_cons_self,hit⟩
   ·rw[h2.1]at ll;exact absurd ll (by decide)
  ·obtain⟨i2,h2,h3⟩:=h.ups x hx ll h1;exact⟨i2,mem_cons_of_mem _ h2,h3⟩
 ·rcases bh.1 hx with rfl|⟨hx,hxne⟩
  ·rcases oh with h2|h2
   ·exact .up (bh.2 (.inl rfl)) ll (by rw[h2.2.2.2];exact Wr _ (h.Ba u hu hk))
   ·rw[h2.1]at ll;exact absurd ll (by decide)
  ·exact Wr _ (h.Ba x hx ll)
theorem cU.file (h:cU N E) {v v':NV} (hv:v∈N) (hk:v.aA=2) (h1:v'.id=v.id) (h2:v'.aA=2) (h3:v'.up=0) (h4:v'.aL.size<=20)
 {E':List (Int×aG)} (hE:∀x∈E',x∈E∨(x.2.aN=v.id/\∃u∈N,u.id=x.1/\u.aA=1)) (hE2:∀x∈E,x.2.aN≠v.id->x∈E') (hc:∀i,i≠v.id->b9 E' i=b9 E i) (hl:(b9 E' v.id:Int)=v'.aB/\1<=v'.aB):cU (dH N v') E':=by
 have mv:=h.Fu hv hk
 have Mz:∀x∈N,x.aA=1->x∈dH N v':=fun x hx Ml=>bh.2 (.inr ⟨hx,fun e=>by
  rw[h1]at e;rw[ja h.nodup hx hv e,hk]at Ml;exact absurd Ml (by decide)⟩)
 have Mo:∀i,(∃x∈N,x.id=i)->∃x∈dH N v',x.id=i:=fun i ⟨x,hx,e⟩=>by
  by_cases he:x.id=v'.id
  ·exact⟨v',bh.2 (.inl rfl),by rw[<-he];exact e⟩
  ·exact⟨x,bh.2 (.inr ⟨hx,he⟩),e⟩
 refine⟨lE h.nodup v',?_,fun x hx=>?_,fun x hx=>?_,fun x hx=>?_,fun x hx h5=>?_,fun x hx ll h5=>?_,fun x hx ll=>?_⟩
 ·obtain⟨r,hr,e1,e2,e3⟩:=h.root;exact⟨r,Mz r hr e2,e1,e2,e3⟩
 ·rcases bh.1 hx with rfl|⟨hx,_⟩
  ·exact .inr ⟨h2,h3,h4⟩
  ·exact h.kinds x hx
 ·rcases hE x hx with hx|⟨e,_⟩
  ·obtain⟨e1,e2⟩:=h.named x hx;exact⟨e1,Mo _ e2⟩
  ·exact⟨by rw[e];exact mv,Mo _ ⟨v,hv,e.symm⟩⟩
 ·rcases hE x hx with hx|⟨_,u,hu,e1,e2⟩
  ·obtain⟨u,hu,e1,e2⟩:=h.aP x hx;exact⟨u,Mz u hu e2,e1,e2⟩
  ·exact⟨u,Mz u hu e2,e1,e2⟩
 ·rcases bh.1 hx with rfl|⟨hx,hxne⟩
  ·rw[h1];exact hl
  ·rw[hc _ (by rw[<-h1];exact hxne)];exact h.pY x hx h5
 ·rcases bh.1 hx with rfl|⟨hx,hxne⟩
  ·rw[h2]at ll;exact absurd ll (by decide)
  ·obtain⟨it,e1,e2⟩:=h.ups x hx ll h5;exact⟨it,hE2 _ e1 (by simp only;rw[e2,<-h1];exact hxne),e2⟩
 ·rcases bh.1 hx with rfl|⟨hx,hxne⟩
  ·rw[h2]at ll;exact absurd ll (by decide)
  ·exact(h.Ba x hx ll).mono fun y hy hky=>⟨y,Mz y hy hky,rfl,hky,rfl⟩
theorem cU.unlink {u:Int} {it:aG} (h:cU N ((u,it)::E)) {v:NV} (hv:v∈N) (hid:v.id=it.aN) (my:v.aA=1->∀x∈E,x.1≠v.id):cU (cm N it.aN) E:=by
 have mv:v.id≠1:=by rw[hid];exact(h.named _ mem_cons_self).1
 have iV:bW N it.aN=v:=by rw[<-hid];exact gB h.nodup hv
 have RV:=h.pY v hv mv;rw[lD,if_pos hid.symm]at RV;have Yc:∀i,i≠v.id->b9 E i=b9 ((u,it)::E) i:=fun i hi=>by rw[lD,if_neg (by simp only;rw[<-hid];exact fun e=>hi e.symm),Nat.add_zero]
 unfold cm;rw[iV]
 by_cases hl:v.aB-1<1
 ·rw[if_pos hl,<-hid];have hz:b9 E v.id=0:=by omega
  have RD:∀x∈E,x.2.aN≠v.id:=fun x hx e=>by unfold b9 at hz;rw[countP_eq_zero]at hz;exact hz x hx (by simpa using e)
  have MC:∀x∈E,∃w∈lN N v.id,w.id=x.1/\w.aA=1:=fun x hx=>by obtain⟨w,hw,e1,e2⟩:=h.aP x (mem_cons_of_mem _ hx);refine⟨w,dK.2 ⟨hw,fun e=>?_⟩,e1,e2⟩;have hwv:=ja h.nodup hw hv e;exact my (by rw[<-hwv];exact e2) x hx (by rw[<-e1,e])
  have aao:∀w∈N,w.aA=1->w.id≠1->w.id≠v.id->w.up≠v.id:=fun w hw KG iD hwv e=>by
   obtain⟨i2,e1,e2⟩:=h.ups w hw KG iD
   rcases mem_cons.1 e1 with e3|e3
   ·have:i2=it:=by cases e3;rfl
    rw[this,<-hid]at e2;exact hwv e2.symm
   ·obtain⟨w2,PQ,e4,e5⟩:=h.aP _ (mem_cons_of_mem _ e3);simp only at e4;have adT:=ja h.nodup PQ hv (by rw[e4,e]);exact my (by rw[<-adT];exact e5) _ e3 e
  have hh:∀j,nU N j->j≠v.id->nU (lN N v.id) j:=by
   intro j hj
   induction hj with
   |root=>intro _;exact .root
   | @up w hw KG _ ih=>
    intro dr
    by_cases iD:w.id=1
    ·rw[iD];exact .root
    ·exact .up (dK.2 ⟨hw,dr⟩) KG (ih (aao w hw KG iD dr))
  refine⟨Ll h.nodup _,?_,fun x hx=>h.kinds x (dK.1 hx).1,fun x hx=>?_,MC,fun x hx h5=>?_,fun x hx ll h5=>?_,fun x hx ll=>hh _ (h.Ba x (dK.1 hx).1 ll) (dK.1 hx).2⟩
  ·obtain⟨r,hr,e1,e2⟩:=h.root;exact⟨r,dK.2 ⟨hr,by rw[e1];exact fun e=>mv e.symm⟩,e1,e2⟩
  ·obtain⟨e1,w,hw,e2⟩:=h.named x (mem_cons_of_mem _ hx);exact⟨e1,w,dK.2 ⟨hw,by rw[e2];exact RD x hx⟩,e2⟩
  ·obtain⟨me,Rk⟩:=dK.1 hx;rw[Yc _ Rk];exact h.pY x me h5
  ·obtain⟨me,Rk⟩:=dK.1 hx;obtain⟨i2,e1,e2⟩:=h.ups x me ll h5
   rcases mem_cons.1 e1 with e3|e3
   ·have:i2=it:=by cases e3;rfl
    rw[this,<-hid]at e2;exact absurd e2.symm Rk
   ·exact⟨i2,e3,e2⟩
 ·rw[if_neg hl]
  rcases h.kinds v hv with hk|hk
  ·exact absurd (by omega:v.aB-1<1) hl
  refine h.file hv hk.1 (v':={v with aB:=v.aB-1}) rfl hk.1 hk.2.1 hk.2.2 (fun x hx=>.inl (mem_cons_of_mem _ hx)) (fun x hx dr=>?_) (fun i hi=>Yc i hi) ⟨by simp only;omega,by simp only;omega⟩
  rcases mem_cons.1 hx with rfl|hx
  ·exact absurd hid.symm dr
  ·exact hx
theorem nU.abC {M:List NV} {i j:Int} (h:nU N j) (hs:∀w∈N,w.id≠i->w∈M) (ho:¬On N j i):nU M j:=by
 induction h with
 |root=>exact .root
 | @up w hw KG _ ih=>
  have dr:w.id≠i:=fun e=>ho (by rw[e];exact .here i)
  exact .up (hs w hw dr) KG (ih fun e=>ho (.up hw KG e))
theorem cU.move {u:Int} {it it':aG} (h:cU N ((u,it)::E)) {v g:NV} (hv:v∈N) (hid:v.id=it.aN) (hg:g∈N) (U2:g.aA=1) (hw:v.aA=1->¬On N g.id v.id) (hit:it'.aN=it.aN):cU (jG N it.aN g.id) ((g.id,it')::E):=by
 have mv:v.id≠1:=by rw[hid];exact(h.named _ mem_cons_self).1
 have iV:bW N it.aN=v:=by rw[<-hid];exact gB h.nodup hv
 have hc:∀i,b9 ((g.id,it')::E) i=b9 ((u,it)::E) i:=fun i=>by rw[lD,lD,hit]
 unfold jG;rw[iV]
 by_cases hk:v.aA=1
 ·rw[if_pos hk];have hgv:g.id≠v.id:=fun e=>hw hk (by rw[e];exact .here _)
  have Mp:({v with up:=g.id}:NV)∈dH N {v with up:=g.id}:=bh.2 (.inl rfl);have qA:∀w∈N,w.id≠v.id->w∈dH N {v with up:=g.id}:=fun w hw dr=>bh.2 (.inr ⟨hw,dr⟩)
  have Mo:∀w∈N,w.aA=1->∃w'∈dH N {v with up:=g.id},w'.id=w.id/\w'.aA=1:=fun w hw KG=>by
   by_cases e:w.id=v.id
   ·exact⟨_,Mp,e.symm,hk⟩
   ·exact⟨w,qA w hw e,rfl,KG⟩
  have hhg:nU (dH N {v with up:=g.id}) g.id:=(h.Ba g hg U2).abC (fun w hw dr=>qA w hw dr) (hw hk)
  have hh:∀j,nU N j->nU (dH N {v with up:=g.id}) j:=by
   intro j hj
   induction hj with
   |root=>exact .root
   | @up w hw KG _ ih=>
    by_cases e:w.id=v.id
    ·rw[e];exact nU.up (v:={v with up:=g.id}) Mp hk hhg
    ·exact .up (qA w hw e) KG ih
  refine⟨lE h.nodup _,?_,fun x hx=>?_,fun x hx=>?_,fun x hx=>?_,fun x hx h5=>?_,fun x hx ll h5=>?_,fun x hx ll=>?_⟩
  ·obtain⟨r,hr,e1,e2⟩:=h.root;exact⟨r,qA r hr (by rw[e1];exact fun e=>mv e.symm),e1,e2⟩
  ·rcases bh.1 hx with rfl|⟨hx,_⟩
   ·rcases h.kinds v hv with h6|h6
    ·exact .inl h6
    ·rw[hk]at h6;exact absurd h6.1 (by decide)
   ·exact h.kinds x hx
  ·have az:∀i,(∃w∈N,w.id=i)->∃w∈dH N {v with up:=g.id},w.id=i:=fun i ⟨w,hw,e⟩=>by
    by_cases e2:w.id=v.id
    ·exact⟨_,Mp,by simp only;rw[<-e2,e]⟩
    ·exact⟨w,qA w hw e2,e⟩
   rcases mem_cons.1 hx with rfl|hx
   ·simp only;rw[hit,<-hid];exact⟨mv,az _ ⟨v,hv,rfl⟩⟩
   ·obtain⟨e1,e2⟩:=h.named x (mem_cons_of_mem _ hx);exact⟨e1,az _ e2⟩
  ·rcases mem_cons.1 hx with rfl|hx
   ·exact⟨g,qA g hg hgv,rfl,U2⟩
   ·obtain⟨w,hw,e1,e2⟩:=h.aP x (mem_cons_of_mem _ hx);obtain⟨w',hw',e3,e4⟩:=Mo w hw e2;exact⟨w',hw',by rw[e3,e1],e4⟩
  ·rw[hc]
   rcases bh.1 hx with rfl|⟨hx,hxne⟩
   ·exact h.pY v hv mv
   ·exact h.pY x hx h5
  ·rcases bh.1 hx with rfl|⟨hx,hxne⟩
   ·exact⟨it',mem_cons_self,by simp only;rw[hit,hid]⟩
   ·obtain⟨i2,e1,e2⟩:=h.ups x hx ll h5
    rcases mem_cons.1 e1 with e3|e3
    ·have:i2=it:=by cases e3;rfl
     rw[this,<-hid]at e2;exact absurd e2.symm hxne
    ·exact⟨i2,mem_cons_of_mem _ e3,e2⟩
  ·rcases bh.1 hx with rfl|⟨hx,hxne⟩
   ·exact nU.up (v:={v with up:=g.id}) Mp hk hhg
   ·exact hh _ (h.Ba x hx ll)
 ·rw[if_neg hk];refine⟨h.nodup,h.root,h.kinds,fun x hx=>?_,fun x hx=>?_,fun x hx h5=>?_,fun x hx ll h5=>?_,h.Ba⟩
  ·rcases mem_cons.1 hx with rfl|hx
   ·simp only;rw[hit];exact h.named _ mem_cons_self
   ·exact h.named x (mem_cons_of_mem _ hx)
  ·rcases mem_cons.1 hx with rfl|hx
   ·exact⟨g,hg,rfl,U2⟩
   ·exact h.aP x (mem_cons_of_mem _ hx)
  ·rw[hc];exact h.pY x hx h5
  ·obtain⟨i2,e1,e2⟩:=h.ups x hx ll h5
   rcases mem_cons.1 e1 with e3|e3
   ·have:i2=it:=by cases e3;rfl
    rw[this,<-hid]at e2;rw[ja h.nodup hv hx e2]at hk;exact absurd ll hk
   ·exact⟨i2,mem_cons_of_mem _ e3,e2⟩
end
def bo (F:aC) (v:NV):List aG:=if v.aA=1 then bp F v else []
section
def jm (i:Int) (L:List aG):List (Int×aG):=L.map fun it=>(i,it)
def b7 (N:List NV) (F:aC):List (Int×aG):=N.flatMap fun v=>jm v.id (bo F v)
structure mq (F:aC):Prop where
 keys:(F.map (·.1)).Nodup
 named:∀x∈F,∀it∈x.2,it.az=dP it.name/\aR it.name=none
 sorted:∀x∈F,bf x.2
structure Whole (N:List NV) (F:aC) (ar:Int):Prop where
 linked:cU N (b7 N F)
 trees:mq F
 ids:∀v∈N,1<=v.id/\v.id<ar
 tree:∀v∈N,v.aA=1->∃tb,v.tb=some tb/\tb∈F.map (·.1)
 iq:∀u∈N,∀v∈N,u.aA=1->v.aA=1->u.tb=v.tb->u.id=v.id
variable {N:List NV} {F:aC} {ar:Int}
theorem mq.set (h:mq F) {tb:Nat} {L:List aG} (h1:∀it∈L,it.az=dP it.name/\aR it.name=none) (h2:bf L):mq (gK F tb L):=by
 refine⟨by rw[cV];exact h.keys,fun x hx it hit=>?_,fun x hx=>?_⟩
 ·rcases po hx with e|e
  ·rw[e]at hit;exact h1 it hit
  ·exact h.named x e it hit
 ·rcases po hx with e|e
  ·rw[e];exact h2
  ·exact h.sorted x e
theorem mq.look (h:mq F) {tb:Nat} (ht:tb∈F.map (·.1)):bf (aX F tb)/\∀it∈aX F tb,it.az=dP it.name/\aR it.name=none:=⟨h.sorted _ (dh ht),h.named _ (dh ht)⟩
theorem mq.put (h:mq F) {tb:Nat} (ht:tb∈F.map (·.1)) {it:aG} (h1:it.az=dP it.name/\aR it.name=none):mq (gl F tb it):=
 h.set (fun x hx=>by
  rcases vr hx with rfl|hx
  ·exact h1
  ·exact(h.look ht).2 x hx) (gk (h.look ht).1)
theorem mq.drop (h:mq F) {tb:Nat} (ht:tb∈F.map (·.1)) (az:ByteArray):mq (cD F tb az):=
 h.set (fun x hx=>(h.look ht).2 x (sO hx)) (mM (h.look ht).1)
theorem mq.new (h:mq F) {tb:Nat} (ht:tb∉F.map (·.1)):mq ((tb,[])::F):=
 ⟨by rw[map_cons,nodup_cons];exact⟨ht,h.keys⟩,fun x hx it hit=>by
  rcases mem_cons.1 hx with rfl|hx
  ·cases hit
  ·exact h.named x hx it hit,fun x hx=>by
  rcases mem_cons.1 hx with rfl|hx
  ·exact List.Pairwise.nil
  ·exact h.sorted x hx⟩
theorem sM {it:aG}:∀{L:List aG},cF L it.az=none->(da L it).Perm (it::L)
 |[],_=>List.Perm.refl _
 |x::L,h=>by
  unfold cF at h;rw[find?_cons]at h;unfold da
  split
  ·exact List.Perm.refl _
  split
  ·rename_i he
   rw[decide_eq_true he]at h
   cases h
  ·rename_i he
   rw[decide_eq_false he]at h;exact((sM (L:=L) h).cons x).trans (List.Perm.swap it x L)
theorem BA {az:ByteArray} {it:aG}:∀{L:List aG},bf L->cF L az=some it->L.Perm (it::dv L az)
 |[],_,h=>by cases h
 |x::L,hs,h=>by
  obtain⟨h1,h2⟩:=List.pairwise_cons.1 hs;unfold cF at h;rw[find?_cons]at h;unfold dv;rw[filter_cons]
  by_cases he:x.az=az
  ·rw[decide_eq_true he]at h;have hx:x=it:=by simpa using h
   rw[decide_eq_true he,hx];simp only[Bool.not_true,Bool.false_eq_true,if_false]
   have:L.filter (fun y=>!decide (y.az=az))=L:=filter_eq_self.2 fun y hy=>by have:=fL (h1 y hy);rw[he]at this;simp only[Bool.not_eq_true',decide_eq_false_iff_not];exact fun e=>this e.symm
   rw[this]
  ·rw[decide_eq_false he]at h;rw[decide_eq_false he];simp only[Bool.not_false,if_true];exact((BA h2 h).cons x).trans (List.Perm.swap it x _)
theorem nz (L:List aG) (az:ByteArray):cF (dv L az) az=none:=pI fun x hx e=>by
 have:=(mem_filter.1 hx).2;simp[e]at this
theorem qS {az k2:ByteArray} (h:k2≠az):∀(L:List aG),cF (dv L az) k2=cF L k2
 |[]=>rfl
 |x::L=>by
  have ih:=qS h L;unfold cF dv at ih ⊢;rw[filter_cons]
  by_cases he:x.az=az
  ·rw[decide_eq_true he];simp only[Bool.not_true,Bool.false_eq_true,if_false];rw[ih,find?_cons,decide_eq_false (by rw[he];exact fun e=>h e.symm)]
  ·rw[decide_eq_false he];simp only[Bool.not_false,if_true];rw[find?_cons,find?_cons,ih]
theorem sd {L:List aG} {k2:ByteArray} (az:ByteArray) (h:cF L k2=none):cF (dv L az) k2=none:=pI fun x hx e=>by
 have:=find?_eq_none.1 h x (sO hx);simp[e]at this
theorem iy {v:NV} {tb:Nat} (hk:v.aA=1) (jh:v.tb=some tb) (F:aC):bo F v=aX F tb:=by unfold bo bp;rw[if_pos hk,jh]
theorem qT {v:NV} {tb:Nat} (h:v.aA=1->v.tb≠some tb) (F:aC) (L:List aG):bo (gK F tb L) v=bo F v:=by
 unfold bo
 split
 ·rename_i hk
  unfold bp
  cases hv:v.tb with
  |none=>rfl
  |some t=>exact fh F tb t L fun e=>h hk (by rw[hv,e])
 ·rfl
theorem kN (A B:List NV) (F:aC):b7 (A++B) F=b7 A F++b7 B F:=by simp[b7]
theorem iw (v:NV) (B:List NV) (F:aC):b7 (v::B) F=jm v.id (bo F v)++b7 B F:=rfl
theorem n9 {F G:aC}:∀{A:List NV},(∀u∈A,bo F u=bo G u)->b7 A F=b7 A G
 |[],_=>rfl
 |u::A,h=>by rw[iw,iw,h u (by simp),n9 fun x hx=>h x (by simp[hx])]
theorem C7 (hn:(N.map NV.id).Nodup) (ht:∀u∈N,∀v∈N,u.aA=1->v.aA=1->u.tb=v.tb->u.id=v.id) {v:NV} (hv:v∈N) (hk:v.aA=1) {tb:Nat} (jh:v.tb=some tb) (hF:tb∈F.map (·.1)):
 ∃R,(b7 N F).Perm (jm v.id (aX F tb)++R)/\∀L,(b7 N (gK F tb L)).Perm (jm v.id L++R):=by
 obtain⟨A,B,rfl⟩:=append_of_mem hv
 have RC:∀L,∀u∈A++B,bo (gK F tb L) u=bo F u:=fun L u hu=>by
  refine qT (fun Mm e=>?_) F L
  have Wj:u∈A++v::B:=by rcases mem_append.1 hu with h|h<;>simp[h]
  have hid:=ht u Wj v hv Mm hk (by rw[e,jh]);rw[map_append,map_cons]at hn;have h2:=nodup_append.1 hn;have h3:=nodup_cons.1 h2.2.1
  rcases mem_append.1 hu with h|h
  ·exact h2.2.2 _ (mem_map.2 ⟨u,h,rfl⟩) v.id (by simp) hid
  ·exact h3.1 (mem_map.2 ⟨u,h,hid⟩)
 refine⟨b7 A F++b7 B F,?_,fun L=>?_⟩
 ·rw[kN,iw,iy hk jh];exact perm_append_comm_assoc _ _ _
 ·rw[kN,iw,iy hk jh,pt _ _ _ hF,n9 (G:=F) (fun u hu=>RC L u (by simp[hu])),n9 (A:=B) (G:=F) (fun u hu=>RC L u (by simp[hu]))];exact perm_append_comm_assoc _ _ _
theorem Whole.ZI (h:Whole N F ar) {v:NV} (hv:v∈N) (hk:v.aA=1) {tb:Nat} (jh:v.tb=some tb) (hF:tb∈F.map (·.1)):
 ∃R,(b7 N F).Perm (jm v.id (aX F tb)++R)/\∀L,(b7 N (gK F tb L)).Perm (jm v.id L++R):=C7 h.linked.nodup h.iq hv hk jh hF
theorem wQ (h:Whole N F ar) {v:NV} (hv:v∈N) (hk:v.aA=1) {tb:Nat} (jh:v.tb=some tb) (hF:tb∈F.map (·.1)) {it:aG} (hg:cF (aX F tb) it.az=none):
 (b7 N (gl F tb it)).Perm ((v.id,it)::b7 N F):=by
 obtain⟨R,h1,h2⟩:=h.ZI hv hk jh hF;refine(h2 _).trans ?_;refine List.Perm.trans ?_ (h1.symm.cons _);exact((sM hg).map _).append_right R
theorem uh (h:Whole N F ar) {v:NV} (hv:v∈N) (hk:v.aA=1) {tb:Nat} (jh:v.tb=some tb) (hF:tb∈F.map (·.1)) {az:ByteArray} {it:aG} (hg:cF (aX F tb) az=some it):
 (b7 N F).Perm ((v.id,it)::b7 N (cD F tb az)):=by
 obtain⟨R,h1,h2⟩:=h.ZI hv hk jh hF;refine h1.trans ?_;refine List.Perm.trans ?_ ((h2 _).symm.cons _);exact((BA (h.trees.look hF).1 hg).map _).append_right R
theorem qm (hn:(N.map NV.id).Nodup) {v v':NV} (hv:v∈N) (h1:v'.id=v.id) (h2:v'.aA=v.aA) (h3:v'.tb=v.tb) (F:aC):b7 (dH N v') F=b7 N F:=by
 have he:bo F v'=bo F v:=by unfold bo bp;rw[h2,h3]
 have hf:(bq N v'.id).isSome=true:=by rw[h1,fZ hn hv];rfl
 unfold dH;rw[if_pos hf]
 have az:∀A:List NV,(∀u∈A,u∈N)->b7 (A.map fun x=>if x.id==v'.id then v' else x) F=b7 A F:=by
  intro A
  induction A with
  |nil=>intro _;rfl
  |cons u A ih=>
   intro hA;rw[map_cons,iw,iw,ih fun x hx=>hA x (by simp[hx])]
   congr 1
   split
   ·rename_i e
    have:u=v:=ja hn (hA u (by simp)) hv (by rw[<-h1];simpa using e);rw[this,he,h1]
   ·rfl
 exact az N fun u hu=>hu
theorem C8 {v:NV} (h:bq N v.id=none) (F:aC):b7 (dH N v) F=b7 N F++jm v.id (bo F v):=by
 unfold dH;rw[h];simp only[Option.isSome_none,Bool.false_eq_true,if_false];rw[kN,iw];simp[b7]
theorem VA (hn:(N.map NV.id).Nodup) {v:NV} (hv:v∈N):∃A B,N=A++v::B/\lN N v.id=A++B:=by
 obtain⟨A,B,rfl⟩:=append_of_mem hv;refine⟨A,B,rfl,?_⟩;rw[map_append,map_cons]at hn;have h2:=nodup_append.1 hn;have h3:=nodup_cons.1 h2.2.1;unfold lN;rw[filter_append,filter_cons]
 have e1:A.filter (fun x=>!(x.id==v.id))=A:=filter_eq_self.2 fun x hx=>by have:=h2.2.2 _ (mem_map.2 ⟨x,hx,rfl⟩) v.id (by simp);simpa using this
 have e2:B.filter (fun x=>!(x.id==v.id))=B:=filter_eq_self.2 fun x hx=>by
  have:x.id≠v.id:=fun e=>h3.1 (by rw[<-e];exact mem_map.2 ⟨x,hx,rfl⟩)
  simpa using this
 rw[e1,e2];simp
theorem Kn (hn:(N.map NV.id).Nodup) {v:NV} (hv:v∈N) (up:Int) (F:aC):b7 (jG N v.id up) F=b7 N F:=by
 unfold jG;rw[gB hn hv]
 split
 ·exact qm hn hv (v':={v with up:=up}) rfl rfl rfl F
 ·rfl
theorem oH {tb t:Nat} (h:tb≠t) (F:aC):aX ((tb,[])::F) t=aX F t:=by
 unfold aX;rw[find?_cons];have:(tb==t)=false:=by simpa using h
 simp only[this]
theorem lW (tb:Nat) (F:aC):aX ((tb,[])::F) tb=[]:=by simp[aX]
theorem Whole.DF (h:Whole N F ar):bq N ar=none/\ar≠1:=by
 constructor
 ·unfold bq;rw[find?_eq_none];intro v hv e;have:=(h.ids v hv).2;have e':v.id=ar:=by simpa using e
  omega
 ·obtain⟨r,hr,h1,_⟩:=h.linked.root;have:=(h.ids r hr).2;omega
theorem bj.free {p:PL} (hp:bj N F p) (h:cF (bp F p.v) p.az=none):cF (aX F p.tb) p.az=none:=by
 unfold bp at h;rw[hp.iq.1]at h;exact h
theorem bj.taken {p:PL} {it:aG} (hp:bj N F p) (h:cF (bp F p.v) p.az=some it):cF (aX F p.tb) p.az=some it:=by
 unfold bp at h;rw[hp.iq.1]at h;exact h
theorem Whole.pP (h:Whole N F ar) {p:PL} (hp:bj N F p) (hf:cF (bp F p.v) p.az=none) {tb:Nat} (ht:tb∉F.map (·.1)):Whole (dH N ⟨ar,1,p.v.id,1,⟨#[]⟩,some tb⟩) (gl ((tb,[])::F) p.tb ⟨p.az,p.name,ar⟩) (ar+1):=by
 obtain⟨MD,Mw⟩:=h.DF;have pD:=hp.iq;have dr:tb≠p.tb:=fun e=>ht (by rw[e];exact pD.2)
 have Dx:∀u∈N,bo ((tb,[])::F) u=bo F u:=fun u hu=>by
  unfold bo
  split
  ·rename_i Mm
   obtain⟨t,h1,h2⟩:=h.tree u hu Mm;unfold bp;rw[h1];exact oH (fun e=>ht (by rw[e];exact h2)) F
  ·rfl
 have tu:Whole N ((tb,[])::F) ar:=⟨by rw[n9 Dx];exact h.linked,h.trees.new ht,h.ids,fun u hu Mm=>by
  obtain⟨t,h1,h2⟩:=h.tree u hu Mm;exact⟨t,h1,mem_cons_of_mem _ h2⟩,h.iq⟩
 have gY:p.tb∈((tb,[])::F).map (·.1):=mem_cons_of_mem _ pD.2;have eU:=wQ tu hp.xf hp.aA pD.1 gY (it:=⟨p.az,p.name,ar⟩) (by rw[oH dr];exact hp.free hf)
 have my:bo (gl ((tb,[])::F) p.tb ⟨p.az,p.name,ar⟩) ⟨ar,1,p.v.id,1,⟨#[]⟩,some tb⟩=[]:=by rw[iy (tb:=tb) rfl rfl];unfold gl;rw[fh _ _ _ _ dr,lW]
 refine⟨?_,tu.trees.put gY ⟨hp.az,hp.name⟩,fun v hv=>?_,fun v hv hk=>?_,fun u hu v hv Zi UX e=>?_⟩
 ·rw[C8 (v:=⟨ar,1,p.v.id,1,⟨#[]⟩,some tb⟩) MD,my];refine((tu.linked.add (v:=⟨ar,1,p.v.id,1,⟨#[]⟩,some tb⟩) MD Mw hp.xf hp.aA (.inl ⟨rfl,rfl,rfl,rfl⟩) (it:=⟨p.az,p.name,ar⟩) rfl).perm eU.symm).perm ?_;simp[jm]
 ·rcases bh.1 hv with rfl|⟨hv,_⟩
  ·obtain⟨r,hr,h1,_⟩:=h.linked.root;have:=(h.ids r hr).2;exact⟨by simp only;omega,by simp only;omega⟩
  ·have:=h.ids v hv;omega
 ·unfold gl;rw[cV]
  rcases bh.1 hv with rfl|⟨hv,_⟩
  ·exact⟨tb,rfl,mem_cons_self⟩
  ·exact tu.tree v hv hk
 ·have az:∀x∈N,x.aA=1->x.tb≠some tb:=fun x hx Ml e2=>by
   obtain⟨t,h1,h2⟩:=h.tree x hx Ml;rw[h1]at e2;exact ht (by rw[<-Option.some.inj e2];exact h2)
  rcases bh.1 hu with rfl|⟨hu,_⟩
  ·rcases bh.1 hv with rfl|⟨hv,_⟩
   ·rfl
   ·exact absurd e.symm (az v hv UX)
  ·rcases bh.1 hv with rfl|⟨hv,_⟩
   ·exact absurd e (az u hu Zi)
   ·exact h.iq u hu v hv Zi UX e
theorem Whole.Et (h:Whole N F ar) {v':NV} {G:aC} {m:Int} (hl:cU (dH N v') (b7 (dH N v') G)) (ht:mq G) (hk:G.map (·.1)=F.map (·.1)) (hid:1<=v'.id/\v'.id<m) (hm:ar<=m) (hold:v'.aA=1->∃v∈N,v.id=v'.id/\v.aA=1/\v.tb=v'.tb):Whole (dH N v') G m:=by
 refine⟨hl,ht,fun v hv=>?_,fun v hv UX=>?_,fun u hu v hv Zi UX e=>?_⟩
 ·rcases bh.1 hv with rfl|⟨hv,_⟩
  ·exact hid
  ·have:=h.ids v hv;omega
 ·rw[hk]
  rcases bh.1 hv with rfl|⟨hv,_⟩
  ·obtain⟨x,hx,h1,h2,h3⟩:=hold UX;rw[<-h3];exact h.tree x hx h2
  ·exact h.tree v hv UX
 ·rcases bh.1 hu with eu|⟨Wj,_⟩
  ·obtain⟨x,hx,h1,h2,h3⟩:=hold (by rw[<-eu];exact Zi)
   rcases bh.1 hv with ev|⟨IC,_⟩
   ·rw[eu,ev]
   ·rw[eu,<-h1];exact h.iq x hx v IC h2 UX (by rw[h3,<-eu,e])
  ·rcases bh.1 hv with ev|⟨IC,_⟩
   ·obtain⟨x,hx,h1,h2,h3⟩:=hold (by rw[<-ev];exact UX);rw[ev,<-h1];exact h.iq u Wj x hx Zi h2 (by rw[h3,<-ev,e])
   ·exact h.iq u Wj v IC Zi UX e
theorem Whole.FR (h:Whole N F ar) {p:PL} (hp:bj N F p) (hf:cF (bp F p.v) p.az=none) {aL:ByteArray} (ht:aL.size<=20):Whole (dH N ⟨ar,2,0,1,aL,none⟩) (gl F p.tb ⟨p.az,p.name,ar⟩) (ar+1):=by
 obtain⟨MD,Mw⟩:=h.DF;have pD:=hp.iq;have eU:=wQ h hp.xf hp.aA pD.1 pD.2 (it:=⟨p.az,p.name,ar⟩) (hp.free hf)
 have ae1:1<=ar:=by obtain⟨r,hr,h1,_⟩:=h.linked.root;have:=(h.ids r hr).2;omega
 refine h.Et ?_ (h.trees.put pD.2 ⟨hp.az,hp.name⟩) (cV _ _ _) ⟨by simp only;omega,by simp only;omega⟩ (by omega) (fun hk=>by simp at hk);rw[C8 (v:=⟨ar,2,0,1,aL,none⟩) MD];refine((h.linked.add (v:=⟨ar,2,0,1,aL,none⟩) MD Mw hp.xf hp.aA (.inr ⟨rfl,rfl,ht,rfl⟩) (it:=⟨p.az,p.name,ar⟩) rfl).perm eU.symm).perm ?_;simp[jm,bo]
theorem Whole.write (h:Whole N F ar) (s t:ByteArray):Whole (iY N F s t).2 F ar:=by
 unfold iY
 split
 ·exact h
 rename_i T9
 split
 ·exact h
 rename_i v hv
 obtain⟨h1,h2⟩:=ml hv;have RV:=h.linked.pY v h1 (h.linked.Fu h1 h2);have zy:=h.linked.kinds v h1
 have hu:v.up=0:=by
  rcases zy with e|e
  ·rw[h2]at e;exact absurd e.1 (by decide)
  ·exact e.2.1
 refine h.Et (v':={v with aL:=t}) ?_ h.trees rfl (h.ids v h1) (by omega) (fun hk=>by simp only at hk;rw[h2]at hk;exact absurd hk (by decide));rw[qm h.linked.nodup h1 (v':={v with aL:=t}) rfl rfl rfl];exact h.linked.file h1 h2 (v':={v with aL:=t}) rfl h2 hu (by simp only;omega) (fun x hx=>.inl hx) (fun x hx _=>hx) (fun _ _=>rfl) RV
theorem Whole.link (h:Whole N F ar) (hF:Fits N F ar) (s t:ByteArray):Whole (jt N F s t).2.1 (jt N F s t).2.2 ar:=by
 unfold jt
 split
 ·exact h
 rename_i v hv
 split
 ·exact h
 rename_i p hp
 obtain⟨h1,h2⟩:=ml hv;obtain⟨jc,Dw⟩:=gS hF hp;have RV:=h.linked.pY v h1 (h.linked.Fu h1 h2);have zy:=h.linked.kinds v h1
 have hu:v.up=0/\v.aL.size<=20:=by
  rcases zy with e|e
  ·rw[h2]at e;exact absurd e.1 (by decide)
  ·exact e.2
 have pD:=jc.iq;have eU:=wQ h jc.xf jc.aA pD.1 pD.2 (it:=⟨p.az,p.name,v.id⟩) (jc.free Dw);refine h.Et (v':={v with aB:=v.aB+1}) ?_ (h.trees.put pD.2 ⟨jc.az,jc.name⟩) (cV _ _ _) (h.ids v h1) (by omega) (fun hk=>by simp only at hk;rw[h2]at hk;exact absurd hk (by decide));rw[qm h.linked.nodup h1 (v':={v with aB:=v.aB+1}) rfl rfl rfl];refine cU.perm ?_ eU.symm;refine h.linked.file h1 h2 (v':={v with aB:=v.aB+1}) rfl h2 hu.1 hu.2 (fun x hx=>?_) (fun x hx _=>mem_cons_of_mem _ hx) (fun i hi=>?_) ⟨?_,by simp only;omega⟩
 ·rcases mem_cons.1 hx with rfl|hx
  ·exact .inr ⟨rfl,p.v,jc.xf,rfl,jc.aA⟩
  ·exact .inl hx
 ·rw[lD,if_neg (by simp only;exact fun e=>hi e.symm),Nat.add_zero]
 ·rw[lD,if_pos rfl];simp only;omega
theorem Bs {v:NV} (h:v.aA≠1) (F:aC):bo F v=[]:=by unfold bo;rw[if_neg h]
theorem Whole.aN (h:Whole N F ar) {p:PL} (hp:bj N F p) {it:aG} (hit:cF (bp F p.v) p.az=some it):∃v∈N,v.id=it.aN/\(p.v.id,it)∈b7 N F:=by
 have eU:=uh h hp.xf hp.aA hp.iq.1 hp.iq.2 (hp.taken hit);have hm:(p.v.id,it)∈b7 N F:=eU.mem_iff.2 mem_cons_self;obtain⟨_,v,hv,hid⟩:=h.linked.named _ hm;exact⟨v,hv,hid,hm⟩
theorem Whole.Gu (h:Whole N F ar) {p:PL} (hp:bj N F p) {it:aG} (hit:cF (bp F p.v) p.az=some it) (my:(bW N it.aN).aA=1->bo F (bW N it.aN)=[]):Whole (cm N it.aN) (cD F p.tb p.az) ar:=by
 obtain⟨v,hv,hid,hm⟩:=h.aN hp hit;have iV:bW N it.aN=v:=by rw[<-hid];exact gB h.linked.nodup hv
 rw[iV]at my;have pD:=hp.iq;have eU:=uh h hp.xf hp.aA pD.1 pD.2 (hp.taken hit)
 have zx:v.id≠p.v.id:=fun e=>by have zx:=ja h.linked.nodup hv hp.xf e;have h1:=my (by rw[zx];exact hp.aA);rw[zx,iy hp.aA pD.1]at h1;have h2:=hp.taken hit;rw[h1]at h2;cases h2
 have qN:bo F v=[]:=by
  by_cases hk:v.aA=1
  ·exact my hk
  ·exact Bs hk F
 have mv:bo (cD F p.tb p.az) v=[]:=by unfold cD;rw[qT (fun hk e=>zx (h.iq v hv p.v hp.xf hk hp.aA (by rw[e,pD.1])))];exact qN
 have hL:=h.linked.perm eU
 have RD:v.aA=1->∀x∈b7 N (cD F p.tb p.az),x.1≠v.id:=fun hk x hx e=>by unfold b7 at hx;obtain⟨u,hu,hx⟩:=List.mem_flatMap.1 hx;obtain⟨i,hi,rfl⟩:=mem_map.1 hx;have:=ja h.linked.nodup hu hv e;rw[this,mv]at hi;cases hi
 have CE:=hL.unlink hv hid RD;have nS:(cD F p.tb p.az).map (·.1)=F.map (·.1):=cV _ _ _
 have nr:∀x∈cm N it.aN,∃y∈N,y.id=x.id/\y.aA=x.aA/\y.tb=x.tb:=fun x hx=>by
  unfold cm at hx;rw[iV]at hx
  split at hx
  ·exact⟨x,(dK.1 hx).1,rfl,rfl,rfl⟩
  ·rcases bh.1 hx with rfl|⟨hx,_⟩
   ·exact⟨v,hv,rfl,rfl,rfl⟩
   ·exact⟨x,hx,rfl,rfl,rfl⟩
 refine⟨?_,h.trees.drop pD.2 _,fun x hx=>?_,fun x hx hk=>?_,fun a ha b hb hka hkb e=>?_⟩
 ·refine CE.perm ?_;rw[<-hid]
  have hr:(b7 (cm N v.id) (cD F p.tb p.az)).Perm (b7 N (cD F p.tb p.az)):=by
   unfold cm;rw[gB h.linked.nodup hv]
   split
   ·obtain⟨A,B,e1,e2⟩:=VA h.linked.nodup hv;rw[e2,e1,kN,kN,iw,mv];exact List.Perm.refl _
   ·rw[qm h.linked.nodup hv (v':={v with aB:=v.aB-1}) rfl rfl rfl]
  exact hr.symm
 ·obtain⟨y,hy,e1,_⟩:=nr x hx;rw[<-e1];exact h.ids y hy
 ·obtain⟨y,hy,e1,e2,e3⟩:=nr x hx;rw[nS,<-e3];exact h.tree y hy (by rw[e2];exact hk)
 ·obtain⟨y,hy,e1,e2,e3⟩:=nr a ha;obtain⟨z,hz,f1,f2,f3⟩:=nr b hb;rw[<-e1,<-f1];exact h.iq y hy z hz (by rw[e2];exact hka) (by rw[f2];exact hkb) (by rw[e3,f3];exact e)
theorem ye {aN aA:Int} (h:fX N F aN aA=none):(bW N aN).aA=aA/\((bW N aN).aA=1->bo F (bW N aN)=[]):=by
 unfold fX at h
 split at h
 ·cases h
 rename_i h1
 split at h
 ·cases h
 rename_i h2
 refine⟨by simpa using h1,fun hk=>?_⟩;unfold bo;rw[if_pos hk]
 exact eq_nil_of_length_eq_zero (by
  have:¬0<(bp F (bW N aN)).length:=fun e=>h2 ⟨hk,e⟩
  omega)
theorem Whole.remove (h:Whole N F ar) (hF:Fits N F ar) (s:ByteArray) (aP:Bool):Whole (dF N F s aP).2.1 (dF N F s aP).2.2 ar:=by
 unfold dF
 split
 ·exact h
 rename_i p it hp
 split
 ·exact h
 ·rename_i hm
  obtain⟨h1,h2⟩:=gI hF hp;exact h.Gu h1 h2 (ye hm).2
theorem Whole.AJ (h:Whole N F ar) {p g:PL} (hp:bj N F p) {it:aG} (hit:cF (bp F p.v) p.az=some it) (hg:bj N F g) (Dw:cF (aX (cD F p.tb p.az) g.tb) g.az=none) (hw:(bW N it.aN).aA=1->¬On N g.v.id it.aN):
 Whole (jG N it.aN g.v.id) (gl (cD F p.tb p.az) g.tb ⟨g.az,g.name,it.aN⟩) ar:=by
 obtain⟨v,hv,hid,hm⟩:=h.aN hp hit;have iV:bW N it.aN=v:=by rw[<-hid];exact gB h.linked.nodup hv
 rw[iV,<-hid]at hw;have pD:=hp.iq;have nO:=hg.iq;have eU:=uh h hp.xf hp.aA pD.1 pD.2 (hp.taken hit);have nS:(cD F p.tb p.az).map (·.1)=F.map (·.1):=cV _ _ _;have X6:g.tb∈(cD F p.tb p.az).map (·.1):=by rw[nS];exact nO.2
 obtain⟨R,r1,r2⟩:=C7 (F:=cD F p.tb p.az) h.linked.nodup h.iq hg.xf hg.aA nO.1 X6
 have fq:(b7 N (gl (cD F p.tb p.az) g.tb ⟨g.az,g.name,it.aN⟩)).Perm ((g.v.id,⟨g.az,g.name,it.aN⟩)::b7 N (cD F p.tb p.az)):=by refine(r2 _).trans ?_;refine List.Perm.trans ?_ (r1.symm.cons _);exact((sM (it:=⟨g.az,g.name,it.aN⟩) Dw).map _).append_right R
 have hL:=(h.linked.perm eU).move (it':=⟨g.az,g.name,it.aN⟩) hv hid hg.xf hg.aA hw rfl
 have CE:cU (jG N it.aN g.v.id) (b7 (jG N it.aN g.v.id) (gl (cD F p.tb p.az) g.tb ⟨g.az,g.name,it.aN⟩)):=by refine hL.perm ?_;rw[<-hid,Kn h.linked.nodup hv,hid];exact fq.symm
 have hT:mq (gl (cD F p.tb p.az) g.tb ⟨g.az,g.name,it.aN⟩):=(h.trees.drop pD.2 _).put X6 ⟨hg.az,hg.name⟩;have RM:(gl (cD F p.tb p.az) g.tb ⟨g.az,g.name,it.aN⟩).map (·.1)=F.map (·.1):=(cV _ _ _).trans nS;unfold jG at CE ⊢;rw[iV]at CE ⊢
 by_cases hk:v.aA=1
 ·rw[if_pos hk]at CE ⊢;exact h.Et CE hT RM (h.ids v hv) (by omega) (fun _=>⟨v,hv,rfl,hk,rfl⟩)
 ·rw[if_neg hk]at CE ⊢;exact⟨CE,hT,h.ids,fun x hx Ml=>by rw[RM];exact h.tree x hx Ml,h.iq⟩
end
def Jk:List UInt8->List (List UInt8)
 |[]=>[[]]
 |c::l=>if c=47 then []::Jk l else match Jk l with | []=>[[c]]|a::t=>(c::a)::t
theorem Nr {c:UInt8} (h:c≠47):∀(k:Nat) (l:List UInt8),∃a t,Lib.splitK [47] 0 k l=a::t/\Lib.splitK [47] 0 k (c::l)=(c::a)::t
 | 0,l=>⟨l,[],rfl,rfl⟩
 |k+1,l=>by
  have hi:Lib.index (c::l) [47]=if Lib.index l [47] == -1 then -1 else Lib.index l [47]+1:=by
   rw[Lib.index_one,Lib.index_one];have e:(c==47)=false:=by simpa using h
   rw[Lib.indexByte,e];rfl
  have hg:=Lib.index_ge l [47]
  by_cases hm:Lib.index l [47] = -1
  ·refine⟨l,[],?_,?_⟩
   ·unfold Lib.splitK;rw[if_pos (by simp[hm])]
   ·unfold Lib.splitK;rw[if_pos (by rw[hi];simp[hm])]
  ·have y9:¬(Lib.index l [47] == -1)=true:=by simpa using hm
   refine⟨l.take ((Lib.index l [47]).toNat+0),Lib.splitK [47] 0 k (l.drop ((Lib.index l [47]).toNat+1)),?_,?_⟩
   ·rw[Lib.splitK,if_neg y9];rfl
   ·rw[Lib.splitK,hi,if_neg y9,if_neg (by simp;omega)];have:(Lib.index l [47]+1).toNat=(Lib.index l [47]).toNat+1:=by omega
    rw[this];rfl
theorem Ns (k:Nat) (l:List UInt8):Lib.splitK [47] 0 (k+1) (47::l)=[]::Lib.splitK [47] 0 k l:=by
 have hi:Lib.index (47::l) [47]=0:=by rw[Lib.index_one];rfl
 rw[Lib.splitK,hi,if_neg (by decide)];rfl
theorem Af:∀l:List UInt8,Lib.splitK [47] 0 (l.count 47) l=Jk l
 |[]=>rfl
 |c::l=>by
  have ih:=Af l
  by_cases h:c=47
  ·subst h;rw[count_cons_self,Ns,ih];simp[Jk]
  ·rw[count_cons_of_ne h];obtain⟨a,t,h1,h2⟩:=Nr h (l.count 47) l;rw[h2];unfold Jk;rw[if_neg h,<-ih,h1]
theorem DP:∀{l:List UInt8},(47:UInt8)∉l->Jk l=[l]
 |[],_=>rfl
 |c::l,h=>by
  have h1:c≠47:=fun e=>h (by simp[e])
  unfold Jk;rw[if_neg h1,DP fun e=>h (by simp[e])]
end Go.Proofs.YtphcnmlbieokoaaGreatDoor.T
namespace Go.Proofs.YtphcnmlbieokoaaGreatDoor
open Go.RowKit Go.Sort List
structure WW (w0:World) (g:Nat) (tail:List Value) (zs:List Int) (w:World):Prop where
 iA:w.heap[g]? = some (.cells (zs.map (Value.int .i32)++tail).toArray 21 (0,0))
 grow:w0.grownBy w (some g)
theorem WW.cell {w0 w:World} {g:Nat} {tail:List Value} {zs:List Int} (h:WW w0 g tail zs w) {k:Nat} {z:Int} (hz:zs[k]? = some z):w.cell? ⟨g,k,none⟩=some (.int .i32 z):=by
 have hk:k<zs.length:=(List.getElem?_eq_some_iff.1 hz).1;rw[cell_of_row _ _ _ _ _ _ h.iA];simp only[getElem?_toArray];rw[getElem?_append_left (by simpa using hk),getElem?_map,hz];rfl
def Ct (l:List Int):List Int:=l.filter (fun r=>bu r==202)
def tK (l:List Int):List Int:=l.filter (fun r=>!(bu r==202))
theorem yf (a b:List Int):Ct (a++b)=Ct a++Ct b:=by simp[Ct]
theorem Fi (a b:List Int):tK (a++b)=tK a++tK b:=by simp[tK]
structure YF (l:List Int):Prop where
 marks:∀x∈l,Mark x
 cut:∀A B,l=A++B->tK A=[]∨Ct B=[]
theorem YF.left {A B:List Int} (h:YF (A++B)):YF A:=
 ⟨fun x hx=>h.marks x (by simp[hx]),fun A1 B1 e=>by
  rcases h.cut A1 (B1++B) (by rw[e];simp)with h1|h1
  ·exact .inl h1
  ·rw[yf]at h1;exact .inr (List.append_eq_nil_iff.1 h1).1⟩
theorem Iq {x:Int} (h:bu x=202):Ct [x]=[x]/\tK [x]=[]:=by simp[Ct,tK,h]
theorem Du {x:Int} (h:bu x=230):Ct [x]=[]/\tK [x]=[x]:=by simp[Ct,tK,h]
theorem YF.last {A:List Int} {x:Int} (h:YF (A++[x])) (hx:bu x=202):tK (A++[x])=[]:=by
 rcases h.cut A [x] rfl with h1|h1
 ·rw[Fi,h1,(Iq hx).2];rfl
 ·rw[(Iq hx).1]at h1
  cases h1
theorem YF.first {B:List Int} {x:Int} (h:YF (x::B)) (hx:bu x=230):Ct (x::B)=[]:=by
 have e:x::B=[x]++B:=rfl
 rcases h.cut [x] B rfl with h1|h1
 ·rw[(Du hx).2]at h1
  cases h1
 ·rw[e,yf,h1,(Du hx).1];rfl
open Go.Lib
def Xi (ts:List Int):Prop:=(∀q∈ts,(pU q∨q=67)∨Mark q)/\∀q t,ts=q::t->(pU q∨q=67)
theorem Xi.empty {ts:List Int} (h:Xi ts) (he:(runK ts).1=[]):ts=[]:=by
 cases ts with
 |nil=>rfl
 |cons q t=>exact absurd he (L8 (by have:=xN (h.2 q t rfl);omega))
theorem Name.part {rs:List Int} (h:Name rs):∀p∈ff rs,qU p=true∨Mark p:=by
 intro p hp;obtain⟨r,hr,Zg⟩:=List.mem_flatMap.1 (ub p hp);exact AA (h.signs r hr) p Zg
end Go.Proofs.YtphcnmlbieokoaaGreatDoor
namespace Go.Proofs.YtphcnmlbieokoaaGreatDoor.T
open Go.RowKit List
theorem Sw {r:Int} (h:bA r) (Zr:r≠47):(47:UInt8)∉Lib.encodeRune r:=by
 obtain⟨h0,h1⟩:=h
 rcases Int.lt_or_le r 128 with hl|hl
 ·rw[oj h0 hl];intro e;have e1:(47:UInt8)=r.toNat.toUInt8:=by simpa using e
  have e2:=congrArg UInt8.toNat e1;rw[u8 _ (by omega)]at e2;have:(47:UInt8).toNat=47:=rfl;omega
 ·rw[s6 hl h1];intro e;have e1:(47:UInt8)=(192+r / 64).toNat.toUInt8∨(47:UInt8)=(128+r%64).toNat.toUInt8:=by simpa using e
  have Zr:(47:UInt8).toNat=47:=rfl
  rcases e1 with e1|e1
  ·have e2:=congrArg UInt8.toNat e1;rw[u8 _ (by omega)]at e2;omega
  ·have e2:=congrArg UInt8.toNat e1;rw[u8 _ (by omega)]at e2;omega
theorem O6 {rs:List Int} (h:∀r∈rs,bA r/\r≠47):(47:UInt8)∉bI rs:=by
 intro e;obtain⟨r,hr,hm⟩:=List.mem_flatMap.1 e;exact Sw (h r hr).1 (h r hr).2 hm
theorem XD:Gb 47=false:=by decide +kernel
theorem Name.adA {rs:List Int} (h:Name rs):∀r∈rs,bA r/\r≠47:=fun r hr=>⟨h.small r hr,fun e=>by
 have:=h.signs r hr;rw[e,XD]at this
 cases this⟩
theorem toList_inj {a b:ByteArray} (h:a.data.toList=b.data.toList):a=b:=by
 cases a;cases b
 congr 1
 exact Array.toList_inj.1 h
section
def ti (N:List NV):Nat->Int->Int
 | 0,i=>i
 |k+1,i=>ti N k (bW N i).up
theorem uU (N:List NV):∀(a b:Nat) (i:Int),ti N (a+b) i=ti N b (ti N a i)
 | 0,b,i=>by rw[Nat.zero_add];rfl
 |a+1,b,i=>by rw[show a+1+b=(a+b)+1 by omega];show ti N (a+b) (bW N i).up=ti N b (ti N a (bW N i).up);exact uU N a b _
theorem zN (N:List NV):∀(n:Nat) (i o:Int),gG N n i o=false->∀k,k<n->ti N k i≠o
 | 0,_,_,_,k,hk=>by omega
 |n+1,i,o,h,k,hk=>by
  unfold gG at h
  split at h
  ·cases h
  rename_i dr
  cases k with
  |zero=>exact fun e=>dr (beq_iff_eq.2 e)
  |succ k=>exact zN N n _ o h k (by omega)
theorem sN:∀{l m:List Int},l.Nodup->(∀x∈l,x∈m)->l.length<=m.length
 |[],m,_,_=>Nat.zero_le _
 |x::l,m,hn,hs=>by
  obtain⟨h1,h2⟩:=nodup_cons.1 hn;have hx:=hs x (by simp);have:=sN (l:=l) (m:=m.erase x) h2 fun y hy=>(mem_erase_of_ne (fun e=>h1 (by rw[<-e];exact hy))).2 (hs y (by simp[hy]))
  rw[length_erase_of_mem hx]at this;have hp:=length_pos_of_mem hx;simp only[length_cons];omega
variable {N:List NV} {E:List (Int×aG)} {F:aC} {ar:Int}
theorem cU.at1 (h:cU N E):(bW N 1).aA=1/\(bW N 1).up=1/\bW N 1∈N/\(bW N 1).id=1:=by
 obtain⟨r,hr,h1,h2,h3⟩:=h.root;have:=gB h.nodup hr;rw[h1]at this;rw[this];exact⟨h2,h3,hr,h1⟩
theorem cU.stay (h:cU N E):∀k,ti N k 1=1
 | 0=>rfl
 |k+1=>by show ti N k (bW N 1).up=1;rw[h.at1.2.1];exact h.stay k
theorem cU.way (h:cU N E) {j:Int} (hj:nU N j):∃d,ti N d j=1/\∀k,k<=d->ti N k j∈N.map NV.id/\(bW N (ti N k j)).aA=1:=by
 induction hj with
 |root=>
  refine⟨0,rfl,fun k hk=>?_⟩;have:k=0:=by omega
  subst this;obtain⟨a1,a2,a3,a4⟩:=h.at1;exact⟨mem_map.2 ⟨_,a3,a4⟩,a1⟩
 | @up v hv hk _ ih=>
  obtain⟨d,h1,h2⟩:=ih;have iV:=gB h.nodup hv;refine⟨d+1,by show ti N d (bW N v.id).up=1;rw[iV];exact h1,fun k zy=>?_⟩
  cases k with
  |zero=>exact⟨mem_map.2 ⟨v,hv,rfl⟩,by show(bW N v.id).aA=1;rw[iV];exact hk⟩
  |succ k=>have:=h2 k (by omega);show ti N k (bW N v.id).up∈_/\(bW N (ti N k (bW N v.id).up)).aA=1;rw[iV];exact this
theorem cU.short (h:cU N E) {j:Int} (hj:nU N j):∃d,d<N.length/\ti N d j=1/\∀k,k<d->ti N k j≠1:=by
 obtain⟨d0,h0,mz⟩:=h.way hj
 obtain⟨d,Gh,vG,hd3⟩:∃d,d<=d0/\ti N d j=1/\∀k,k<d->ti N k j≠1:=by
  clear mz
  induction d0 using Nat.strongRecOn with
  |ind d0 ih=>
   by_cases hx:∃k,k<d0/\ti N k j=1
   ·obtain⟨k,hk,ji⟩:=hx;obtain⟨d,a,b,c⟩:=ih k hk ji;exact⟨d,by omega,b,c⟩
   ·exact⟨d0,Nat.le_refl _,h0,fun k hk e=>hx ⟨k,hk,e⟩⟩
 refine⟨d,?_,vG,hd3⟩
 have dr:∀a b,a<b->b<=d->ti N a j≠ti N b j:=fun a b hab A8 e=>by
  have h1:ti N (a+(d-b)) j=1:=by rw[uU,e,<-uU,show b+(d-b)=d by omega];exact vG
  exact hd3 (a+(d-b)) (by omega) h1
 have hl:(List.range (d+1)).map (fun k=>ti N k j) |>.Nodup:=by
  rw[nodup_iff_pairwise_ne,pairwise_map];have:(List.range (d+1)).Pairwise (fun a b=>a<b):=pairwise_lt_range;refine this.imp_of_mem fun {a b} ha hb hab=>?_
  exact dr a b hab (by have:=List.mem_range.1 hb;omega)
 have:=sN hl (m:=N.map NV.id) fun x hx=>by obtain⟨k,hk,rfl⟩:=mem_map.1 hx;exact(mz k (by have:=List.mem_range.1 hk;omega)).1
 rw[length_map,length_map,length_range]at this;omega
theorem cU.Xt (h:cU N E) {j i:Int} (ho:On N j i):∃k,ti N k j=i:=by
 induction ho with
 |here j=>exact⟨0,rfl⟩
 | @up v i hv hk _ ih=>obtain⟨k,e⟩:=ih;exact⟨k+1,by show ti N k (bW N v.id).up=i;rw[gB h.nodup hv];exact e⟩
theorem cU.within (h:cU N E) {j i:Int} (hj:nU N j) (hw:gG N N.length j i=false):¬On N j i:=by
 intro ho;obtain⟨k,e⟩:=h.Xt ho;obtain⟨d,h1,h2,_⟩:=h.short hj;have mz:=zN N N.length j i hw
 by_cases hk:k<N.length
 ·exact mz k hk e
 ·have:ti N k j=1:=by
   rw[show k=d+(k-d)by omega,uU,h2];exact h.stay _
  exact mz d h1 (by rw[h2,<-this,e])
theorem On.sub {M:List NV} {j i:Int} (h:On M j i) (hs:∀w∈M,w.aA=1->w∈N):On N j i:=by
 induction h with
 |here j=>exact .here j
 |up hv hk _ ih=>exact .up (hs _ hv hk) hk ih
theorem tF (h:Whole N F ar) {p g:PL} (hp:bj N F p) (hg:bj N F g):p.v.id=g.v.id↔p.tb=g.tb:=by
 constructor
 ·intro e;have:=ja h.linked.nodup hp.xf hg.xf e;unfold PL.tb;rw[this]
 ·intro e;exact h.iq _ hp.xf _ hg.xf hp.aA hg.aA (by rw[hp.iq.1,hg.iq.1,e])
theorem mV (F:aC) (t u:Nat) (az:ByteArray) (ht:t∈F.map (·.1)):aX (cD F t az) u=if u=t then dv (aX F t) az else aX F u:=by
 unfold cD
 split
 ·rename_i e;subst e;exact pt _ _ _ ht
 ·rename_i e;exact fh _ _ _ _ e
theorem Whole.rename (h:Whole N F ar) (hF:Fits N F ar) (s t:ByteArray):Whole (dY N F s t).2.1 (dY N F s t).2.2 ar:=by
 unfold dY
 split
 ·exact h
 rename_i p it hp
 split
 ·exact h
 rename_i g hg
 obtain⟨jc,hit⟩:=gI hF hp;have xl:=jA hF hg;have pD:=jc.iq;have nO:=xl.iq;obtain⟨v,hv,hid,hm⟩:=h.aN jc hit;have iV:bW N it.aN=v:=by rw[<-hid];exact gB h.linked.nodup hv
 unfold ny
 split
 ·exact h
 rename_i hround
 have hon:(bW N it.aN).aA=1->¬On N g.v.id it.aN:=fun hk=>by
  have AV:gG N N.length g.v.id (bW N it.aN).id=false:=by rw[hk]at hround;simpa using hround
  rw[iV,hid]at AV;exact h.linked.within (h.linked.Ba g.v xl.xf xl.aA) AV
 split
 ·rename_i Dw
  refine h.AJ jc hit xl ?_ hon;rw[mV _ _ _ _ pD.2]
  split
  ·rename_i e;exact sd _ (by rw[<-e];exact Dw)
  ·exact Dw
 rename_i o ho
 split
 ·rename_i qO
  refine h.AJ jc hit xl ?_ hon;rw[Bool.and_eq_true,beq_iff_eq,beq_iff_eq]at qO;have jh:g.tb=p.tb:=(tF h xl jc).1 qO.1;have iI:g.az=p.az:=toList_inj (by rw[<-Lib.toList_data,<-Lib.toList_data];exact qO.2);rw[mV _ _ _ _ pD.2,if_pos jh,iI];exact nz _ _
 rename_i hdiff
 split
 ·exact h
 rename_i hnode
 split
 ·exact h
 rename_i Oz
 obtain⟨oh,my⟩:=ye Oz;have hog:cF (bp F g.v) g.az=some o:=by unfold bp;rw[nO.1];exact ho
 have h1:=h.Gu xl hog my;obtain⟨x,hx,hxid,_⟩:=h.aN xl hog;have UN:bW N o.aN=x:=by rw[<-hxid];exact gB h.linked.nodup hx
 rw[UN]at my
 have gr:∀{q:PL} {i:aG},bj N F q->cF (bp F q.v) q.az=some i->q.v.id≠o.aN:=fun {q i} hq hi e=>by have e2:=ja h.linked.nodup hq.xf hx (by rw[e,hxid]);have e3:=my (by rw[<-e2];exact hq.aA);rw[<-e2,iy hq.aA hq.iq.1]at e3;have e4:=hq.taken hi;rw[e3]at e4;cases e4
 have gY:∀w∈N,w.id≠o.aN->w∈cm N o.aN:=fun w hw dr=>by
  unfold cm;rw[UN]
  split
  ·exact dK.2 ⟨hw,dr⟩
  ·exact bh.2 (.inr ⟨hw,by simp only;rw[hxid];exact dr⟩)
 have jv:∀w∈cm N o.aN,w.aA=1->w∈N:=fun w hw KG=>by
  unfold cm at hw;rw[UN]at hw
  split at hw
  ·exact(dK.1 hw).1
  ·rename_i hl
   rcases bh.1 hw with rfl|⟨hw,_⟩
   ·rcases h.linked.kinds x hx with e|e
    ·exact absurd (by omega:x.aB-1<1) hl
    ·simp only at KG;rw[e.1]at KG;exact absurd KG (by decide)
   ·exact hw
 have nS:(cD F g.tb g.az).map (·.1)=F.map (·.1):=cV _ _ _
 have CA:∀{q:PL} {i:aG},bj N F q->cF (bp F q.v) q.az=some i->bj (cm N o.aN) (cD F g.tb g.az) q:=fun {q i} hq hi=>
  ⟨gY _ hq.xf (gr hq hi),hq.aA,by rw[nS];exact hq.tree,hq.name,hq.az⟩
 have Dm:=CA jc hit;have oP:=CA xl hog
 have abd:bW (cm N o.aN) it.aN=bW N it.aN:=by
  have dr:it.aN≠o.aN:=fun e=>hnode e.symm
  unfold bW cm;rw[UN]
  split
  ·rw[jX dr]
  ·rw[jW (by simp only;rw[hxid];exact dr)]
 have aex:cF (bp (cD F g.tb g.az) p.v) p.az=some it:=by
  unfold bp;rw[pD.1];simp only;rw[mV _ _ _ _ nO.2];have hpk:=jc.taken hit
  split
  ·rename_i e
   rw[qS,<-e]
   ·exact hpk
   ·intro e2;apply hdiff;rw[Bool.and_eq_true,beq_iff_eq,beq_iff_eq];exact⟨((tF h jc xl).2 e).symm,by rw[e2]⟩
  ·exact hpk
 refine h1.AJ Dm aex oP ?_ (fun hk XX=>?_)
 ·rw[mV _ _ _ _ (by rw[nS];exact pD.2),mV _ _ _ _ nO.2,mV _ _ _ _ nO.2]
  split
  ·rename_i e
   rw[if_pos e.symm];exact sd _ (nz _ _)
  ·rw[if_pos rfl];exact nz _ _
 ·rw[abd]at hk;exact hon hk (XX.sub jv)
end
section
structure mN (k:Nat) (N:List NV) (F:aC) (ar:Int):Prop where
 fits:Fits N F ar
 ix:zo k F
 aB:∀v∈N,0<=v.aB/\v.aB<=k+1
 top:ar<=k+2
variable {k:Nat} {N:List NV} {F:aC} {ar:Int}
theorem mN.mono (h:mN k N F ar) {m:Nat} (hm:k<=m):mN m N F ar:=⟨h.fits,h.ix.mono hm,fun v hv=>by have:=h.aB v hv;omega,by have:=h.top;omega⟩
theorem mN.vq (h:mN k N F ar) (hk:k<=800):∀v∈N,0<=v.aB/\v.aB<=1000000:=fun v hv=>by have:=h.aB v hv;omega
theorem mN.put (h:mN k N F ar) {tb:Nat} (ht:tb∈F.map (·.1)) {it:aG} (h1:0<=it.aN/\it.aN<=999) (h2:it.az.toList.isEmpty=false) (hk:k<800):mN (k+1) N (gl F tb it) ar:=
 ⟨h.fits.put ht h1 h2 h.ix (by omega),h.ix.put tb it,fun v hv=>by have:=h.aB v hv;omega,by have:=h.top;omega⟩
theorem mN.drop (h:mN k N F ar) {tb:Nat} (ht:tb∈F.map (·.1)) (az:ByteArray):mN k N (cD F tb az) ar:=⟨h.fits.drop ht az,h.ix.drop tb az,h.aB,h.top⟩
theorem mN.Ia (h:mN k N F ar) {v:NV} (h1:v.aA=1->∃tb,v.tb=some tb/\tb∈F.map (·.1)) (h2:0<=v.id/\v.id<=999) (h3:0<=v.up/\v.up<=999) (h4:(bq N v.id).isSome=true∨N.length<16) (h5:0<=v.aB/\v.aB<=k+1):mN k (dH N v) F ar:=
 ⟨h.fits.Ia h1 h2 h3 h4,h.ix,fun x hx=>by
  rcases pq hx with rfl|hx
  ·exact h5
  ·exact h.aB x hx,h.top⟩
theorem mN.unlink (h:mN k N F ar) (i:Int):mN k (cm N i) F ar:=by
 refine⟨h.fits.unlink i fun v hv=>(h.aB v hv).1,h.ix,fun x hx=>?_,h.top⟩;unfold cm at hx
 split at hx
 ·exact h.aB x (mem_filter.1 hx).1
 ·rename_i eO
  rcases pq hx with rfl|hx
  ·simp only
   have:(bq N i).isSome=true:=by
    cases hf:bq N i with
    |some v=>rfl
    |none=>exfalso;apply eO;unfold bW;rw[hf];simp[NV.zero]
   have:=h.aB _ (LA this).1;omega
  ·exact h.aB x hx
theorem mN.move (h:mN k N F ar) (i up:Int) (hu:0<=up/\up<=999):mN k (jG N i up) F ar:=by
 refine⟨h.fits.move i up hu,h.ix,fun x hx=>?_,h.top⟩;unfold jG at hx
 split at hx
 ·rename_i hk
  rcases pq hx with rfl|hx
  ·exact h.aB (bW N i) (vT (N:=N) (i:=i) rfl (by rw[hk];decide)).1
  ·exact h.aB x hx
 ·exact h.aB x hx
theorem mN.vo (h:mN k N F ar) (tb:Nat):mN k N ((tb,[])::F) ar:=⟨h.fits.vo tb,h.ix.vo tb,h.aB,h.top⟩
theorem mN.ni (h:mN k N F ar) (hn:ar<=999) (ht:ar+1<=k+2):mN k N F (ar+1):=⟨h.fits.ni hn,h.ix,h.aB,ht⟩
theorem MP {v:NV} (h:v∈N):(bq N v.id).isSome=true:=by
 unfold bq;rw[find?_isSome];exact⟨v,h,by simp⟩
theorem mN.write (h:mN k N F ar) (s t:ByteArray):mN k (iY N F s t).2 F ar:=by
 unfold iY
 split
 ·exact h
 split
 ·exact h
 ·rename_i v hv
  have h1:=(ml hv).1;exact h.Ia (fun hk=>h.fits.tree v h1 hk) (h.fits.id v h1) (h.fits.up v h1) (.inl (by simp only;exact MP h1)) (h.aB v h1)
theorem mN.link (h:mN k N F ar) (hk:k<800) (s t:ByteArray):mN (k+1) (jt N F s t).2.1 (jt N F s t).2.2 ar:=by
 unfold jt
 split
 ·exact h.mono (by omega)
 rename_i v hv
 split
 ·exact h.mono (by omega)
 rename_i p hp
 have h1:=(ml hv).1;have jc:=(gS h.fits hp).1;have h2:=h.put jc.iq.2 (it:=⟨p.az,p.name,v.id⟩) (h.fits.id v h1) (by rw[jc.az];exact kR jc.name) hk;exact h2.Ia (fun hk=>h2.fits.tree v h1 hk) (h.fits.id v h1) (h.fits.up v h1) (.inl (by simp only;exact MP h1)) (by have:=h.aB v h1;simp only;omega)
theorem mN.remove (h:mN k N F ar) (s:ByteArray) (aP:Bool):mN k (dF N F s aP).2.1 (dF N F s aP).2.2 ar:=by
 unfold dF
 split
 ·exact h
 rename_i p it hp
 split
 ·exact h
 ·exact(h.drop (gI h.fits hp).1.iq.2 p.az).unlink it.aN
theorem mN.AJ (h:mN k N F ar) (hk:k<800) {p g:PL} (hp:p.tb∈F.map (·.1)) (hg:g.tb∈F.map (·.1)) (U2:g.az.toList.isEmpty=false) (hgi:0<=g.v.id/\g.v.id<=999) {i:Int} (hi:0<=i/\i<=999):mN (k+1) (kO N F p g i).2.1 (kO N F p g i).2.2 ar:=by
 unfold kO;exact((h.drop hp p.az).put (by rw[show(cD F p.tb p.az).map (·.1)=F.map (·.1)from cV _ _ _];exact hg) hi U2 hk).move i g.v.id hgi
theorem mN.rename (h:mN k N F ar) (hk:k<800) (s t:ByteArray):mN (k+1) (dY N F s t).2.1 (dY N F s t).2.2 ar:=by
 unfold dY
 split
 ·exact h.mono (by omega)
 rename_i p it hp
 split
 ·exact h.mono (by omega)
 rename_i g hg
 have jc:=(gI h.fits hp).1;have xl:=jA h.fits hg;have hi:=tY h.fits hp;have U2:g.az.toList.isEmpty=false:=by rw[xl.az];exact kR xl.name
 have hgi:=h.fits.id g.v xl.xf;unfold ny
 split
 ·exact h.mono (by omega)
 split
 ·exact h.AJ hk jc.iq.2 xl.iq.2 U2 hgi hi
 split
 ·exact h.AJ hk jc.iq.2 xl.iq.2 U2 hgi hi
 split
 ·exact h.mono (by omega)
 split
 ·exact h.mono (by omega)
 ·exact((h.drop xl.iq.2 g.az).unlink _).AJ hk (by rw[show(cD F g.tb g.az).map (·.1)=F.map (·.1)from cV _ _ _];exact jc.iq.2) (by rw[show(cD F g.tb g.az).map (·.1)=F.map (·.1)from cV _ _ _];exact xl.iq.2) U2 hgi hi
theorem mN.pP (h:mN k N F ar) (hk:k<800) {p:PL} (jc:bj N F p) (Ua:N.length<16) (hn:ar<=999) (aL:ByteArray) (tb:Nat):mN (k+1) (dH N ⟨ar,1,p.v.id,1,aL,some tb⟩) (gl ((tb,[])::F) p.tb ⟨p.az,p.name,ar⟩) (ar+1):=by
 have oN:=h.fits.ar;have pD:=jc.iq.2;have h1:=(h.vo tb).put (tb:=p.tb) (by rw[map_cons];exact mem_cons_of_mem _ pD) (it:=⟨p.az,p.name,ar⟩) ⟨by simp only;omega,by simp only;omega⟩ (by simp only;rw[jc.az];exact kR jc.name) hk;refine(h1.Ia (v:=⟨ar,1,p.v.id,1,aL,some tb⟩) (fun _=>⟨tb,rfl,?_⟩) ⟨by simp only;omega,by simp only;omega⟩ (h.fits.id p.v jc.xf) (.inr Ua) ⟨by simp only;omega,by simp only;omega⟩).ni hn (by have:=h.top;omega);rw[show(gl ((tb,[])::F) p.tb ⟨p.az,p.name,ar⟩).map (·.1)=((tb,[])::F).map (·.1)from cV _ _ _]
 exact mem_cons_self
theorem mN.FR (h:mN k N F ar) (hk:k<800) {p:PL} (jc:bj N F p) (Ua:N.length<16) (hn:ar<=999) (aL:ByteArray):mN (k+1) (dH N ⟨ar,2,0,1,aL,none⟩) (gl F p.tb ⟨p.az,p.name,ar⟩) (ar+1):=by
 have oN:=h.fits.ar;have h1:=h.put (tb:=p.tb) jc.iq.2 (it:=⟨p.az,p.name,ar⟩) ⟨by simp only;omega,by simp only;omega⟩ (by simp only;rw[jc.az];exact kR jc.name) hk;exact(h1.Ia (v:=⟨ar,2,0,1,aL,none⟩) (fun hx=>by simp at hx) ⟨by simp only;omega,by simp only;omega⟩ ⟨by simp only;omega,by simp only;omega⟩ (.inr Ua) ⟨by simp only;omega,by simp only;omega⟩).ni hn (by have:=h.top;omega)
structure Good (k:Nat) (N:List NV) (F:aC) (ar:Int):Prop where
 goo:mN k N F ar
 whole:Whole N F ar
theorem Good.fits (h:Good k N F ar):Fits N F ar:=h.goo.fits
theorem Good.ix (h:Good k N F ar):zo k F:=h.goo.ix
theorem Good.mono (h:Good k N F ar) {m:Nat} (hm:k<=m):Good m N F ar:=⟨h.goo.mono hm,h.whole⟩
theorem Good.vq (h:Good k N F ar) (hk:k<=800):∀v∈N,0<=v.aB/\v.aB<=1000000:=h.goo.vq hk
theorem Good.pP (h:Good k N F ar) (hk:k<800) {p:PL} (jc:bj N F p/\cF (bp F p.v) p.az=none) (Ua:N.length<16) (hn:ar<=999) {tb:Nat} (ht:tb∉F.map (·.1)):Good (k+1) (dH N ⟨ar,1,p.v.id,1,⟨#[]⟩,some tb⟩) (gl ((tb,[])::F) p.tb ⟨p.az,p.name,ar⟩) (ar+1):=
 ⟨h.goo.pP hk jc.1 Ua hn ⟨#[]⟩ tb,h.whole.pP jc.1 jc.2 ht⟩
theorem I6 {w0 w:World} {fb mb:Nat} {M:List NV} {G:aC} {m:Int} {l2:List aI} {tb t:Nat} {it:aG} (h:aJ w0 w fb mb M (gl ((tb,[])::F) t it) m l2):tb∉F.map (·.1):=by
 have h1:=h.nodup;unfold gl at h1;rw[cV,map_cons,nodup_cons]at h1;exact h1.1
variable {w0 w:World} {fb mb:Nat} {l2:List aI}
end
open Go.Shelf Go.Proofs.Tryz
def Qu:Go.Shelf.Ren:=⟨fun | 6=>84 | 14=>125 | 15=>93 | 20=>186 | 21=>187 | 22=>188 | 23=>189 | 24=>190 | 25=>191 | 26=>192 | 27=>193 | 28=>146 | 29=>147 | 46=>235 | 47=>203 | 48=>204 | 49=>236 | 50=>237 | 57=>271|n=>n,fun | 0=>0 | 3=>3 | 4=>4 | 5=>5 | 9=>9 | 22=>89 | 24=>52 | 25=>160 | 39=>167 | 45=>207 | 46=>208 | 50=>185 | 53=>214 | 55=>37 | 66=>267 | 70=>271 | 76=>315 | 77=>316|n=>n,fun|n=>n⟩
theorem Nv:SlLaysF0.n6 prog Qu:={
 mixed:=by kernel_rfl
 f6:=⟨ "slices.SortFunc[[]jobcase/api.Node,jobcase/api.Node]",by kernel_rfl,ad func84⟩
 f14:=⟨ "slices.pdqsortCmpFunc[jobcase/api.Node]",by kernel_rfl,ad func125⟩
 f15:=ad func93
 f20:=⟨ "slices.insertionSortCmpFunc[jobcase/api.Node]",by kernel_rfl,ad func186⟩
 f21:=⟨ "slices.heapSortCmpFunc[jobcase/api.Node]",by kernel_rfl,ad func187⟩
 f22:=⟨ "slices.breakPatternsCmpFunc[jobcase/api.Node]",by kernel_rfl,ad func188⟩
 f23:=⟨ "slices.choosePivotCmpFunc[jobcase/api.Node]",by kernel_rfl,ad func189⟩
 f24:=⟨ "slices.reverseRangeCmpFunc[jobcase/api.Node]",by kernel_rfl,ad func190⟩
 f25:=⟨ "slices.partialInsertionSortCmpFunc[jobcase/api.Node]",by kernel_rfl,ad func191⟩
 f26:=⟨ "slices.partitionEqualCmpFunc[jobcase/api.Node]",by kernel_rfl,ad func192⟩
 f27:=⟨ "slices.partitionCmpFunc[jobcase/api.Node]",by kernel_rfl,ad func193⟩
 f28:=ad func146
 f29:=ad func147
 f46:=⟨ "slices.siftDownCmpFunc[jobcase/api.Node]",by kernel_rfl,ad func235⟩
 f47:=ad func203
 f48:=ad func204
 f49:=⟨ "slices.medianAdjacentCmpFunc[jobcase/api.Node]",by kernel_rfl,ad func236⟩
 f50:=⟨ "slices.medianCmpFunc[jobcase/api.Node]",by kernel_rfl,ad func237⟩
 f57:=⟨ "slices.order2CmpFunc[jobcase/api.Node]",by kernel_rfl,ad func271⟩
 t0:=underlying0
 a0:=isAgg0
 z0:=sizeOf0
 v0:=zeroValue0
 t3:=underlying3
 a3:=isAgg3
 z3:=sizeOf3
 v3:=zeroValue3
 t4:=underlying4
 a4:=isAgg4
 z4:=sizeOf4
 v4:=zeroValue4
 t5:=underlying5
 a5:=isAgg5
 z5:=sizeOf5
 v5:=zeroValue5
 t9:=underlying9
 a9:=isAgg9
 z9:=sizeOf9
 v9:=zeroValue9
 t22:=underlying89
 a22:=isAgg89
 z22:=sizeOf89
 v22:=zeroValue89
 t25:=underlying160
 a25:=isAgg160
 z25:=sizeOf160
 v25:=zeroValue160
 t39:=underlying167
 a39:=isAgg167
 z39:=sizeOf167
 v39:=zeroValue167
 t45:=underlying207
 a45:=isAgg207
 z45:=sizeOf207
 v45:=zeroValue207
 t46:=underlying208
 a46:=isAgg208
 z46:=sizeOf208
 v46:=zeroValue208
 t50:=underlying185
 a50:=isAgg185
 z50:=sizeOf185
 v50:=zeroValue185
 t53:=underlying214
 a53:=isAgg214
 z53:=sizeOf214
 v53:=zeroValue214
 t55:=underlying37
 a55:=isAgg37
 z55:=sizeOf37
 v55:=zeroValue37
 t66:=underlying267
 a66:=isAgg267
 z66:=sizeOf267
 v66:=zeroValue267
 t70:=underlying271
 a70:=isAgg271
 z70:=sizeOf271
 v70:=zeroValue271
 t76:=underlying315
 a76:=isAgg315
 z76:=sizeOf315
 v76:=zeroValue315
 t77:=underlying316
 a77:=isAgg316
 z77:=sizeOf316
 v77:=zeroValue316}
def Qv:Go.Shelf.Ren:=⟨fun | 6=>48 | 14=>92 | 15=>93 | 20=>138 | 21=>139 | 22=>140 | 23=>141 | 24=>142 | 25=>143 | 26=>144 | 27=>145 | 28=>146 | 29=>147 | 46=>202 | 47=>203 | 48=>204 | 49=>205 | 50=>206 | 57=>253|n=>n,fun | 0=>0 | 3=>3 | 4=>4 | 5=>5 | 9=>9 | 22=>38 | 24=>86 | 25=>104 | 39=>167 | 45=>207 | 46=>208 | 50=>185 | 53=>214 | 55=>37 | 66=>267 | 70=>271 | 76=>315 | 77=>316|n=>n,fun|n=>n⟩
theorem Nw:SlLaysF0.n6 prog Qv:={
 mixed:=by kernel_rfl
 f6:=⟨ "slices.SortFunc[[]jobcase/api.Change,jobcase/api.Change]",by kernel_rfl,ad func48⟩
 f14:=⟨ "slices.pdqsortCmpFunc[jobcase/api.Change]",by kernel_rfl,ad func92⟩
 f15:=ad func93
 f20:=⟨ "slices.insertionSortCmpFunc[jobcase/api.Change]",by kernel_rfl,ad func138⟩
 f21:=⟨ "slices.heapSortCmpFunc[jobcase/api.Change]",by kernel_rfl,ad func139⟩
 f22:=⟨ "slices.breakPatternsCmpFunc[jobcase/api.Change]",by kernel_rfl,ad func140⟩
 f23:=⟨ "slices.choosePivotCmpFunc[jobcase/api.Change]",by kernel_rfl,ad func141⟩
 f24:=⟨ "slices.reverseRangeCmpFunc[jobcase/api.Change]",by kernel_rfl,ad func142⟩
 f25:=⟨ "slices.partialInsertionSortCmpFunc[jobcase/api.Change]",by kernel_rfl,ad func143⟩
 f26:=⟨ "slices.partitionEqualCmpFunc[jobcase/api.Change]",by kernel_rfl,ad func144⟩
 f27:=⟨ "slices.partitionCmpFunc[jobcase/api.Change]",by kernel_rfl,ad func145⟩
 f28:=ad func146
 f29:=ad func147
 f46:=⟨ "slices.siftDownCmpFunc[jobcase/api.Change]",by kernel_rfl,ad func202⟩
 f47:=ad func203
 f48:=ad func204
 f49:=⟨ "slices.medianAdjacentCmpFunc[jobcase/api.Change]",by kernel_rfl,ad func205⟩
 f50:=⟨ "slices.medianCmpFunc[jobcase/api.Change]",by kernel_rfl,ad func206⟩
 f57:=⟨ "slices.order2CmpFunc[jobcase/api.Change]",by kernel_rfl,ad func253⟩
 t0:=underlying0
 a0:=isAgg0
 z0:=sizeOf0
 v0:=zeroValue0
 t3:=underlying3
 a3:=isAgg3
 z3:=sizeOf3
 v3:=zeroValue3
 t4:=underlying4
 a4:=isAgg4
 z4:=sizeOf4
 v4:=zeroValue4
 t5:=underlying5
 a5:=isAgg5
 z5:=sizeOf5
 v5:=zeroValue5
 t9:=underlying9
 a9:=isAgg9
 z9:=sizeOf9
 v9:=zeroValue9
 t22:=underlying38
 a22:=isAgg38
 z22:=sizeOf38
 v22:=zeroValue38
 t25:=underlying104
 a25:=isAgg104
 z25:=sizeOf104
 v25:=zeroValue104
 t39:=underlying167
 a39:=isAgg167
 z39:=sizeOf167
 v39:=zeroValue167
 t45:=underlying207
 a45:=isAgg207
 z45:=sizeOf207
 v45:=zeroValue207
 t46:=underlying208
 a46:=isAgg208
 z46:=sizeOf208
 v46:=zeroValue208
 t50:=underlying185
 a50:=isAgg185
 z50:=sizeOf185
 v50:=zeroValue185
 t53:=underlying214
 a53:=isAgg214
 z53:=sizeOf214
 v53:=zeroValue214
 t55:=underlying37
 a55:=isAgg37
 z55:=sizeOf37
 v55:=zeroValue37
 t66:=underlying267
 a66:=isAgg267
 z66:=sizeOf267
 v66:=zeroValue267
 t70:=underlying271
 a70:=isAgg271
 z70:=sizeOf271
 v70:=zeroValue271
 t76:=underlying315
 a76:=isAgg315
 z76:=sizeOf315
 v76:=zeroValue315
 t77:=underlying316
 a77:=isAgg316
 z77:=sizeOf316
 v77:=zeroValue316}
def bS (tb:Nat):NV:=⟨1,1,1,1,⟨#[]⟩,some tb⟩
theorem H0.fs {w0 w:World} {l2:List aI} (h:H0 w0 w l2) (hb:w0.heap.size<=w.heap.size):aJ w0 ((w.alloc (.map #[] 0)).alloc (.cells #[.map (some w.heap.size),.int .i64 2] 126)) (w.heap.size+1) w.heap.size [] [] 2 l2:=by
 have h1:=aw.rP h hb;have h2:=aw.aY h1 (by simp;omega) 126 [.map (some w.heap.size),.int .i64 2];rw[World.size_alloc]at h2;exact⟨[],.nil,h2⟩
theorem look_nil (w:World):(Instr.lookup 82 (.map none) (.int .i64 1) false).run prog w=.ok (.slice none 0 0) w:=by
 first|kernel_rfl|rfl|(simp[Instr.lookup,go_sem];done)
theorem AE {w0 w:World} {S:Nat} {l2:List aI} (h:H0 w0 w (.cell S 52 [.int .i64 1,.int .i64 1,.int .i64 1,.int .i64 1,.string ⟨#[]⟩]::l2)) (hb:w0.heap.size<=w.heap.size):
 Calls prog 41 #[.slice (some ⟨S,0,none⟩) 1 1,.map none,.int .i64 2] w fun e w'=>∃fb mb tb,e=.returned (.pointer (some ⟨fb,0,none⟩))/\aJ w0 w' fb mb [bS tb] [(tb,[])] 2 l2:=by
 have h1:=H0.fs h hb;obtain⟨mb,My⟩:=aa w.heap.size;rw[My]at h1;obtain⟨w1,iD⟩:=aa ((w.alloc (.map #[] 0)).alloc (.cells #[.map (some mb),.int .i64 2] 126));rw[iD]at h1;have s0:w1.cell? ⟨S,0,none⟩=some (.int .i64 1):=h1.cellAt ae rfl;have s1:w1.cell? ⟨S,1,none⟩=some (.int .i64 1):=h1.cellAt ae rfl;have s2:w1.cell? ⟨S,2,none⟩=some (.int .i64 1):=h1.cellAt ae rfl;have s3:w1.cell? ⟨S,3,none⟩=some (.int .i64 1):=h1.cellAt ae rfl;have s4:w1.cell? ⟨S,4,none⟩=some (.string ⟨#[]⟩):=h1.cellAt ae rfl
 have qZ:=@run_makeMap prog;have H1:=aq h1;clear h h1;go_enter func41,ntmps41;go_wp2_with fail;obtain⟨D,hD⟩:=aa w1.heap.size;have h2:=(an H1).aY 52 [.int .i64 1,.int .i64 1,.int .i64 1,.int .i64 1,.string ⟨#[]⟩];rw[hD]at h2;have nR:=oD w0 (w1.alloc (.cells #[.int .i64 1,.int .i64 1,.int .i64 1,.int .i64 1,.string ⟨#[]⟩] 52)).drew (mb+1) mb [] [] 2 _ h2.drew 1 1 1 ⟨#[]⟩;have Qc:=aq nR;have D0:Hid (∀wx M G l,aJ w0 wx (mb+1) mb M G 2 l->aI.cell D 52 [.int .i64 1,.int .i64 1,.int .i64 1,.int .i64 1,.string ⟨#[]⟩]∈l->wx.cell? ⟨mb+1,0,none⟩=some (.map (some mb))/\wx.cell? ⟨D,0,none⟩=some (.int .i64 1)/\wx.cell? ⟨D,1,none⟩=some (.int .i64 1)/\wx.cell? ⟨D,2,none⟩=some (.int .i64 1)/\wx.cell? ⟨D,3,none⟩=some (.int .i64 1)/\wx.cell? ⟨D,4,none⟩=some (.string ⟨#[]⟩)):=fun wx M G l hx hm=>⟨hx.kP,hx.cellAt hm rfl,hx.cellAt hm rfl,hx.cellAt hm rfl,hx.cellAt hm rfl,hx.cellAt hm rfl⟩
 have rh:=aq (an D0 _ _ _ _ h2.drew ae);have E0:=look_nil (w1.alloc (.cells #[.int .i64 1,.int .i64 1,.int .i64 1,.int .i64 1,.string ⟨#[]⟩] 52)).drew;have HLn:Hid (∀wx,(Instr.lookup 82 (.map none) (.int .i64 1) false).run prog wx=.ok (.slice none 0 0) wx):=look_nil;clear h2 nR
 go_loopg [16] 2 (fun g vi wr=>(g=2/\vi=.int .i64 0/\wr=w1)∨(g=1/\vi=.int .i64 1/\∃tb,Hid (aJ w0 wr (mb+1) mb [bS tb] [(tb,[])] 2 l2)))
 case atStart=>exact .inl ⟨rfl,rfl,rfl⟩
 case round=>
  rcases hrel with⟨rfl,rfl,rfl⟩|⟨rfl,rfl,tb,H9⟩
  ·go_wp2_with fail
   go_region_held (fun w'=>w'.cell? ⟨mb+1,0,none⟩=some (.map (some mb))/\w'.cell? ⟨D,0,none⟩=some (.int .i64 1)/\w'.cell? ⟨D,1,none⟩=some (.int .i64 1)/\w'.cell? ⟨D,2,none⟩=some (.int .i64 1)/\w'.cell? ⟨D,3,none⟩=some (.int .i64 1)/\w'.cell? ⟨D,4,none⟩=some (.string ⟨#[]⟩)) (first|exact an xK|exact an M8|exact an rh) ((go_at_call 83;refine(an Qc).mono ?_;rintro e w5 ⟨tb,rfl,h5⟩;have M8:=aq (an D0 _ _ _ _ h5 ae);obtain⟨w6,fq,h6⟩:=h5.nj (by decide) (bS tb) (il (by simp[bS]) (by simp[bS]));have vA:Sem.run prog (Instr.mapUpdate 124 (.map (some mb)) (.int .i64 1) (.agg #[.int .i64 1,.int .i64 1,.int .i64 1,.int .i64 1,.string ⟨#[]⟩,.pointer (some ⟨tb,0,none⟩)])) w5=.ok () w6:=fq;have xK:=aq (an D0 _ _ _ _ h6 ae);have H6:=aq h6;clear h5 h6 fq))
   all_goals
    go_wp2_with fail
    go_roundg 1
    case measure=>omega
    case rel=>exact .inr ⟨rfl,by simp,tb,(((an H6).aD []).aD [])⟩
  ·go_wp2_with fail
   go_ret;exact⟨mb+1,mb,tb,rfl,an H9⟩
theorem I5 {w0 w:World} {l2:List aI} (h:H0 w0 w l2) (hb:w0.heap.size<=w.heap.size):
 Calls prog 75 #[] w fun e w'=>∃fb mb tb,e=.returned (.pointer (some ⟨fb,0,none⟩))/\aJ w0 w' fb mb [bS tb] [(tb,[])] 2 l2:=by
 have h1:=aw.aY (aw.aY h hb 52 [.int .i64 1,.int .i64 1,.int .i64 1,.int .i64 1,.string ⟨#[]⟩]) (by simp;omega) 52 [.int .i64 1,.int .i64 1,.int .i64 1,.int .i64 1,.string ⟨#[]⟩];rw[World.size_alloc]at h1;have hof:=AE h1 (by simp;omega);have HO:=aq hof;clear h h1 hof;go_enter func75,ntmps75;go_wp2_with fail;refine(an HO).mono ?_;rintro e w2 ⟨fb,mb,tb,rfl,h2⟩;have H2:=aq h2;clear h2 HO;go_wp2_with fail;go_ret;exact⟨fb,mb,tb,rfl,(an H2).aD []⟩
theorem Vk (tb:Nat):mN 0 [bS tb] [(tb,[])] 2:=by
 refine⟨⟨fun v hv hk=>?_,by simp,fun v hv=>?_,fun v hv=>?_,fun x hx it hit=>?_,fun x hx it hit=>?_,by decide,fun x hx=>?_⟩,fun x hx=>?_,fun v hv=>?_,by decide⟩
 ·rw[mem_singleton.1 hv];exact⟨tb,rfl,by simp⟩
 ·rw[mem_singleton.1 hv];exact⟨by simp[bS],by simp[bS]⟩
 ·rw[mem_singleton.1 hv];exact⟨by simp[bS],by simp[bS]⟩
 ·rw[mem_singleton.1 hx]at hit;cases hit
 ·rw[mem_singleton.1 hx]at hit;cases hit
 ·rw[mem_singleton.1 hx];exact Nat.zero_le _
 ·rw[mem_singleton.1 hx];exact Nat.zero_le _
 ·rw[mem_singleton.1 hv];exact⟨by simp[bS],by simp[bS]⟩
theorem Nh (tb:Nat):Whole [bS tb] [(tb,[])] 2:=by
 have hp:b7 [bS tb] [(tb,[])]=[]:=by simp[b7,jm,bo,bp,bS,aX]
 refine⟨?_,⟨by simp,fun x hx it hit=>?_,fun x hx=>?_⟩,fun v hv=>?_,fun v hv _=>?_,fun u hu v hv _ _ _=>?_⟩
 ·rw[hp];refine⟨by simp,⟨bS tb,by simp,rfl,rfl,rfl⟩,fun v hv=>?_,fun x hx=>(by cases hx),fun x hx=>(by cases hx),fun v hv h=>?_,fun v hv _ h=>?_,fun v hv _=>?_⟩
  ·rw[mem_singleton.1 hv];exact .inl ⟨rfl,rfl,rfl⟩
  ·rw[mem_singleton.1 hv]at h;exact absurd rfl h
  ·rw[mem_singleton.1 hv]at h;exact absurd rfl h
  ·rw[mem_singleton.1 hv];exact .root
 ·rw[mem_singleton.1 hx]at hit;cases hit
 ·rw[mem_singleton.1 hx];exact List.Pairwise.nil
 ·rw[mem_singleton.1 hv];exact⟨by simp[bS],by simp[bS]⟩
 ·rw[mem_singleton.1 hv];exact⟨tb,rfl,by simp⟩
 ·rw[mem_singleton.1 hu,mem_singleton.1 hv]
theorem Bf (tb:Nat):Good 0 [bS tb] [(tb,[])] 2:=⟨Vk tb,Nh tb⟩
def iP (w:World) (v:Value):Prop:=
 (∃p c,v=.slice p 0 c)∨∃b off m c,v=.slice (some ⟨b,off,none⟩) m c/\m<=9223372036854775807/\∀j,j<m->∃az val:ByteArray,w.cell? ⟨b,off+j*3,none⟩=some (.string az)/\w.cell? ⟨b,off+j*3+1,none⟩=some (.string val)
def V4 (e:Ending):Prop:=∃r:Bool,e=.returned (.bool r)
theorem ur (v:Value) (w:World) (h:iP w v) (ia:Nat) (hm:ia<=1000):
 Calls prog 22 #[v,.int .i64 ia] w fun e w'=>V4 e/\w'=w:=by
 rcases h with⟨p,c,rfl⟩|⟨b,off,m,c,rfl,hm63,hc⟩
 ·go_enter func22,ntmps22;have hz:¬((ia:Int)<0):=by omega
  go_wp2_with fail
  go_loopg [5] 1 (fun g vi wr=>vi=.int .i64 0/\wr=w)
  case atStart=>exact⟨rfl,rfl⟩
  case round=>obtain⟨rfl,rfl⟩:=hrel;go_wp2_with fail;go_ret;exact⟨⟨_,rfl⟩,rfl⟩
 ·have HC:=aq hc;clear hc
  by_cases qZ:ia<m
  ·have hz:(ia:Int)<(m:Int):=by omega
   go_enter func22,ntmps22;go_wp2_with fail;go_ret;exact⟨⟨_,rfl⟩,rfl⟩
  ·have hz:¬((ia:Int)<(m:Int)):=by omega
   go_enter func22,ntmps22;go_wp2_with fail
   go_loopg [5] (m+1) (fun g vi wr=>∃i:Nat,m-i<g/\i<=m/\vi=.int .i64 i/\wr=w)
   case atStart=>exact⟨0,by omega,by omega,rfl,rfl⟩
   case round=>
    obtain⟨i,hg,hi,rfl,rfl⟩:=hrel
    by_cases him:i<m
    ·have mI:(i:Int)<(m:Int):=by omega
     obtain⟨az,val,q1,q2⟩:=an HC i him
     by_cases h1:60<az.size
     ·have fE:(60:Int)<(az.size:Int):=by omega
      go_wp2_with fail
      go_ret;exact⟨⟨_,rfl⟩,rfl⟩
     ·have fE:¬((60:Int)<(az.size:Int)):=by omega
      by_cases h2:60<val.size
      ·have fD:(60:Int)<(val.size:Int):=by omega
       go_wp2_with fail
       go_ret;exact⟨⟨_,rfl⟩,rfl⟩
      ·have fD:¬((60:Int)<(val.size:Int)):=by omega
       go_wp2_with fail
       go_roundg (m-i)
       case measure=>omega
       case rel=>exact⟨i+1,by omega,by omega,by simp,rfl⟩
    ·have mI:¬((i:Int)<(m:Int)):=by omega
     go_wp2_with fail
     go_ret;exact⟨⟨_,rfl⟩,rfl⟩
structure gC where
 aA:ByteArray
 s:ByteArray
 t:ByteArray
 n:Int
 ch:Value
def jz (w:World) (v:Value) (n:Nat) (f:Nat->gC):Prop:=
 ((∃p c,v=.slice p 0 c)/\n=0)∨∃b off c,v=.slice (some ⟨b,off,none⟩) n c/\n<=9223372036854775807/\b<w.heap.size/\∀j,j<n->w.cell? ⟨b,off+j*6,none⟩=some (.string (f j).aA)/\w.cell? ⟨b,off+j*6+1,none⟩=some (.string (f j).s)/\w.cell? ⟨b,off+j*6+2,none⟩=some (.string (f j).t)/\w.cell? ⟨b,off+j*6+3,none⟩=some (.int .i64 (f j).n)/\(∃u,w.cell? ⟨b,off+j*6+4,none⟩=some (.int .u64 u))/\w.cell? ⟨b,off+j*6+5,none⟩=some (f j).ch/\iP w (f j).ch
def Pu (n ia:Nat) (f:Nat->gC) (e:Ending):Prop:=∃r:Bool,e=.returned (.bool r)/\(r=true->n<=ia/\∀j,j<n->(f j).s.size<=200/\(f j).t.size<=200)
theorem rQ (v:Value) (n:Nat) (f:Nat->gC) (w:World) (h:jz w v n f) (ia:Nat) (hm:ia<=1000):
 Calls prog 9 #[v,.int .i64 ia] w fun e w'=>Pu n ia f e/\w'=w:=by
 rcases h with⟨⟨p,c,rfl⟩,rfl⟩|⟨b,off,c,rfl,Oy,hb,hc⟩
 ·go_enter func9,ntmps9;have hz:¬((ia:Int)<0):=by omega
  go_wp2_with fail
  go_loopg [5] 1 (fun g vi wr=>vi=.int .i64 0/\wr=w)
  case atStart=>exact⟨rfl,rfl⟩
  case round=>obtain⟨rfl,rfl⟩:=hrel;go_wp2_with fail;go_ret;exact⟨⟨true,rfl,fun _=>⟨Nat.zero_le _,fun j hj=>by omega⟩⟩,rfl⟩
 ·have HC:=aq hc;clear hc
  by_cases qZ:ia<n
  ·have hz:(ia:Int)<(n:Int):=by omega
   go_enter func9,ntmps9;go_wp2_with fail;go_ret;exact⟨⟨false,rfl,fun h=>by cases h⟩,rfl⟩
  ·have hz:¬((ia:Int)<(n:Int)):=by omega
   go_enter func9,ntmps9;go_wp2_with fail
   go_loopg [5] (n+1) (fun g vi wr=>∃i:Nat,n-i<g/\i<=n/\vi=.int .i64 i/\wr=w/\Hid (∀j,j<i->(f j).s.size<=200/\(f j).t.size<=200))
   case atStart=>exact⟨0,by omega,by omega,rfl,rfl,fun j hj=>by omega⟩
   case round=>
    obtain⟨i,hg,hi,rfl,rfl,JN⟩:=hrel
    by_cases him:i<n
    ·have mI:(i:Int)<(n:Int):=by omega
     obtain⟨_,q1,q2,_,_,q5,mw⟩:=an HC i him;have e1:=ur (f i).ch wr mw 16 (by omega);have E1:=aq e1
     have gX:∃p m c',(f i).ch=.slice p m c':=by
      rcases mw with⟨p',c',h⟩|⟨b',o',m',c',h,_⟩
      ·exact⟨_,_,_,h⟩
      ·exact⟨_,_,_,h⟩
     obtain⟨S,hS⟩:=aa ((f i).s);obtain⟨T,hT⟩:=aa ((f i).t);obtain⟨V,hV⟩:=aa ((f i).ch);rw[hS]at q1;rw[hT]at q2;rw[hV]at q5 E1 gX;obtain⟨p,m',c',rfl⟩:=gX
     have mW:Hid (S.size<=200->T.size<=150->∀j,j<i+1->(f j).s.size<=200/\(f j).t.size<=200):=fun h1 h2 j hj=>by
      rcases Nat.lt_or_ge j i with h|h
      ·exact an JN j h
      ·obtain rfl:j=i:=by omega
       rw[hS,hT];exact⟨h1,by omega⟩
     clear e1 mw hS hT hV
     by_cases h1:200<S.size
     ·have fE:(200:Int)<(S.size:Int):=by omega
      go_wp2_with fail
      go_ret;exact⟨⟨false,rfl,fun h=>by cases h⟩,rfl⟩
     ·have fE:¬((200:Int)<(S.size:Int)):=by omega
      by_cases h2:150<T.size
      ·have fD:(150:Int)<(T.size:Int):=by omega
       go_wp2_with fail
       go_ret;exact⟨⟨false,rfl,fun h=>by cases h⟩,rfl⟩
      ·have fD:¬((150:Int)<(T.size:Int)):=by omega
       go_wp2_with fail
       refine(an E1).mono ?_;rintro e w3 ⟨⟨r,rfl⟩,rfl⟩
       cases r with
       |true=>
        go_wp2_with fail
        go_roundg (n-i)
        case measure=>omega
        case rel=>exact⟨i+1,by omega,by omega,by simp,rfl,an mW (by omega) (by omega)⟩
       |false=>
        go_wp2_with fail
        go_ret;exact⟨⟨false,rfl,fun h=>by cases h⟩,rfl⟩
    ·have mI:¬((i:Int)<(n:Int)):=by omega
     go_wp2_with fail
     go_ret;exact⟨⟨true,rfl,fun _=>⟨by omega,fun j hj=>an JN j (by omega)⟩⟩,rfl⟩
theorem cell_later {w w':World} (hb:Below w.heap.size w w') {p:Addr} {v:Value} (h:w.cell? p=some v):w'.cell? p=some v:=
 (World.cell?_of_block (w:=w) (hb.block p.block (World.block_lt_of_cell? _ _ h))).trans h
theorem iP.later {w w':World} {v:Value} (h:iP w v) (hb:Below w.heap.size w w'):iP w' v:=by
 rcases h with h|⟨b,off,m,c,h1,h2,h3⟩
 ·exact .inl h
 ·refine .inr ⟨b,off,m,c,h1,h2,fun j hj=>?_⟩;obtain⟨az,val,k1,k2⟩:=h3 j hj;exact⟨az,val,cell_later hb k1,cell_later hb k2⟩
section
theorem qi {fn:Func} {p u:Tmp} (h:fn.results=#[.cell p 52,.tmp u]) (tmps:Array Value) (w:World) (g:Nat) (a b c d e:Value) {v:Value}
 (hp:tmps.getD p undef=.pointer (some ⟨g,0,none⟩)) (AW:tmps.getD u undef=v) (hg:w.heap[g]? = some (.cells #[a,b,c,d,e] 52 (0,0))):
 (results fn tmps).run prog w=.ok (.tuple #[.agg #[a,b,c,d,e],v]) w:=by
 have hr:=run_loadVar_row (P:=prog) w g 52 52 #[a,b,c,d,e] (0,0) _ hg underlying52 rfl (by kernel_rfl);rw[results_cell_tmp h,hp,AW];simp[asAddr,hr]
def Ft (r:Except Int NV):Value:=.tuple #[.agg #[.int .i64 (GU r).id,.int .i64 (GU r).aA,.int .i64 (GU r).up,.int .i64 (GU r).aB,.string (GU r).aL],bH (QE r)]
variable (w0 w:World) (fb mb:Nat) (N:List NV) (F:aC) (ar:Int) (l2:List aI)
theorem Fk (hR:bF w0) (h:aJ w0 w fb mb N F ar l2) (hF:Fits N F ar) (s:ByteArray) (hs:s.size<=4000000000):
 Calls prog 20 #[.pointer (some ⟨fb,0,none⟩),.string s] w fun e w'=>e=.returned (Ft (bX N F s))/\aJ w0 w' fb mb N F ar l2:=by
 obtain⟨B,hB⟩:=aa w.heap.size;have h1:=h.aY 52 [.int .i64 0,.int .i64 0,.int .i64 0,.int .i64 0,.string ⟨#[]⟩];rw[hB]at h1;have hf:=yy w0 _ fb mb N F ar _ hR h1 hF s hs;generalize bX N F s=r at hf ⊢;clear h h1 hF hR;unfold cZ zv at hf;unfold Ft;obtain⟨u,hu⟩:=aa (GU r);obtain⟨ov,eK⟩:=aa (bH (QE r))
 have uB:∃t v,ov=.iface t v∨ov=.nilIface:=by
  rw[<-eK]
  cases QE r with
  |none=>exact⟨0,.nilIface,.inr rfl⟩
  |some k=>exact⟨_,_,.inl rfl⟩
 rw[hu,eK]at hf ⊢;unfold NV.val at hf;have D4:=aq hf;clear hf hu eK;go_enter func20,ntmps20;go_wp2_with fail;refine(an D4).mono ?_;rintro e w2 ⟨rfl,h2⟩;obtain⟨C,hC⟩:=aa w2.heap.size;have h3:=h2.aY 107 [.int .i64 u.id,.int .i64 u.aA,.int .i64 u.up,.int .i64 u.aB,.string u.aL,.pointer u.ptr];rw[hC]at h3;obtain⟨w3,hw3⟩:=aa (w2.alloc (.cells [.int .i64 u.id,.int .i64 u.aA,.int .i64 u.up,.int .i64 u.aB,.string u.aL,.pointer u.ptr].toArray 107));rw[hw3]at h3;have b0:w3.cell? ⟨B,0,none⟩=some (.int .i64 0):=h3.cellAt af rfl
 have b1:w3.cell? ⟨B,1,none⟩=some (.int .i64 0):=h3.cellAt af rfl;have b2:w3.cell? ⟨B,2,none⟩=some (.int .i64 0):=h3.cellAt af rfl;have b3:w3.cell? ⟨B,3,none⟩=some (.int .i64 0):=h3.cellAt af rfl;have b4:w3.cell? ⟨B,4,none⟩=some (.string ⟨#[]⟩):=h3.cellAt af rfl;have f0:=h3.frozenAt (b:=B) af 0;have f1:=h3.frozenAt (b:=B) af 1;have f2:=h3.frozenAt (b:=B) af 2;have f3:=h3.frozenAt (b:=B) af 3;have f4:=h3.frozenAt (b:=B) af 4
 obtain⟨k0,k1,k2,k3,k4,k5,_⟩:=h3.mP (b:=C) ae;have H3:=aq h3;clear h2 h3 D4;go_wp2_with fail;have s0:=aJ.store [_] (an H3) 0 (.int .i64 u.id) _ rfl;have s1:=aJ.store [_] s0 1 (.int .i64 u.aA) _ rfl;have s2:=aJ.store [_] s1 2 (.int .i64 u.up) _ rfl;have s3:=aJ.store [_] s2 3 (.int .i64 u.aB) _ rfl;have s4:=aJ.store [_] s3 4 (.string u.aL) _ rfl;refine bodyPost_ret (qi (p:=4) (u:=5) rfl _ _ B _ _ _ _ _ rfl rfl (s4.cw (t:=52) af)) rfl ?_;exact⟨rfl,(s4.aD []).aD []⟩
end
section
variable {w0 w:World} {fb mb:Nat} {N:List NV} {F:aC} {ar:Int} {l2:List aI}
theorem aJ.Qn (h:aJ w0 w fb mb N F ar l2) {tb:Nat} (ht:tb∈F.map (·.1)):
 ∃rest:List aI,fY w0.heap.size w0 (fun _=>0) w tb (aX F tb) rest/\
  ∀w' l',fY w0.heap.size w0 (fun _=>0) w' tb (aX F tb) (l'++rest)->aJ w0 w' fb mb N F ar (l'++l2):=by
 have qO:=wJ F tb fun x hx e=>by rw[<-e,wX h.nodup hx]
 obtain⟨rs,hr,H⟩:=h;obtain⟨h',k,B6,oY,rfl,a1,a2,a3,a4,a5⟩:=hr.split ht;refine⟨.cell fb 126 [.map (some mb),.int .i64 ar]::.obj mb (bU N)::(B6++oY++l2),⟨a1,h',k,a2,a3,a4,?_⟩,fun w' l' hT=>?_⟩
 ·refine H.conv (fun x=>?_) (fun r hr=>H.sat r ?_)
  ·simp only[ay,ax];omega
  ·simp only[mem_append,mem_cons]at hr ⊢
   rcases hr with h|h|h|h|(h|h)|h<;>simp[h]
 ·obtain⟨s1,h2,k2,b1,b2,b3,H2⟩:=hT
  have hR:=a5 h2 k2 (aX F tb) s1 b1 b2 b3 fun x hx t vs e=>by
   have h3:=H2.uniq tb;subst e
   have h4:1<=total (B6++oY) tb:=by have:=gH hx tb;rw[bM,bx]at this;exact this
   simp only[ay,ax,bM,bx]at h3 h4;omega
  rw[qO]at hR;refine⟨B6++.cell tb 192 [bK k2.b]::.sub h2 k2::oY,hR,?_⟩;refine H2.conv (fun x=>?_) (fun r hr=>H2.sat r ?_)
  ·simp only[ay,ax];omega
  ·simp only[mem_append,mem_cons]at hr ⊢
   rcases hr with h|h|(h|h|h|h)|h|h<;>simp[h]
theorem aJ.fJ (h:aJ w0 w fb mb N F ar l2) (e:TypeId) (k:Nat):aJ w0 w fb mb N F ar (.row (.slice none 0 0) e k 0 []::l2):=by
 obtain⟨rs,hr,H⟩:=h;have H1:=aw.fJ H e k;refine⟨rs,hr,H1.conv (fun x=>?_) fun r hr=>H1.sat r ?_⟩
 ·simp only[ax,ay];omega
 ·simp only[mem_cons,mem_append]at hr ⊢
  rcases hr with h|h|h|h|h<;>simp[h]
theorem aJ.rowAt (h:aJ w0 w fb mb N F ar l2) {v:Value} {e:TypeId} {k n:Nat} {xs:List Value} (hm:aI.row v e k n xs∈l2):w.ownsRow w0.heap.size e k v n xs:=by
 obtain⟨rs,_,H⟩:=h;exact H.sat (.row v e k n xs) (by simp[hm])
theorem aJ.rest (h:aJ w0 w fb mb N F ar l2):H0 w0 w l2:=by
 obtain⟨rs,hr,H⟩:=h;exact aw.conv H (fun x=>by simp only[ax,ay];omega) fun r hr=>aw.sat H r (by simp[hr])
theorem DC:∀(l:List aG) (j:Nat) (h:j<l.length),(iL l)[j*2]? = some (.string l[j].name)/\(iL l)[j*2+1]? = some (.int .i64 l[j].aN)
 |x::l,0,h=>⟨rfl,rfl⟩
 |x::l,j+1,h=>by have e:iL (x::l)=.string x.name::.int .i64 x.aN::iL l:=rfl;have:=DC l j (by simpa using h);rw[e,show(j+1)*2=j*2+1+1 by omega];simpa using this
theorem uL {au g n aU:Nat} {L:List aG} (h:w.ownsRow au 100 2 (.slice (some ⟨g,0,none⟩) n aU) n (iL L)) {j:Nat} {x:aG} (hk:L[j]? = some x):w.cell? ⟨g,j*2,none⟩=some (.string x.name)/\w.cell? ⟨g,j*2+1,none⟩=some (.int .i64 x.aN):=by
 have hl:L.length*2=n*2:=by rw[<-h.1,Fp]
 obtain⟨hj,rfl⟩:=List.getElem?_eq_some_iff.1 hk;have h1:=DC L j hj;exact⟨by rw[h.cellAt _ (by omega)];exact h1.1,by rw[h.cellAt _ (by omega)];exact h1.2⟩
def V3 (w0:World) (fb mb:Nat) (N:List NV) (F:aC) (ar:Int) (l2:List aI) (L:List aG) (e:Ending) (w':World):Prop:=∃v,e=.returned v/\aJ w0 w' fb mb N F ar (kL v L::l2)
theorem S9 {tb:Nat} (hF:Fits N F ar) (ht:tb∈F.map (·.1)) (az:ByteArray) (aF:Int) (Dq:-9223372036854775808<=aF) (UW:aF<=9223372036854775807) (wx:World) (l:List aI) (hx:aJ w0 wx fb mb N F ar l):
 Calls prog 89 #[.pointer (some ⟨tb,0,none⟩),.string az,.int .i64 aF] wx fun e w'=>∃v,e=.returned v/\aJ w0 w' fb mb N F ar (kL v ((bC (aX F tb) az).take aF.toNat)::l):=by
 obtain⟨rest,hT,jv⟩:=hx.Qn ht;have hl:(aX F tb).length<=1000:=by have:=(show zo 900 F from hF.aF).look tb;omega
 exact(Jz _ _ _ wx tb _ rest az aF Dq UW hT hl).mono fun e w' ⟨v,he,hT'⟩=>⟨v,he,jv w' [_] hT'⟩
theorem UC {tb:Nat} (hF:Fits N F ar) (ht:tb∈F.map (·.1)) (wx:World) (l:List aI) (hx:aJ w0 wx fb mb N F ar l):
 Calls prog 90 #[.pointer (some ⟨tb,0,none⟩)] wx fun e w'=>e=.returned (.int .i64 (aX F tb).length)/\aJ w0 w' fb mb N F ar l:=by
 obtain⟨rest,hT,jv⟩:=hx.uW ht;have hl:(aX F tb).length<=1000:=by have:=(show zo 900 F from hF.aF).look tb;omega
 exact(AP _ _ _ wx tb _ rest hT (fun x hx=>hF.full _ (dh ht) x hx) hl).mono fun e w' ⟨he,hT'⟩=>⟨he,jv w' hT'⟩
theorem CF (h:aJ w0 w fb mb N F ar l2) (hF:Fits N F ar) (i:Int) (hi:kg i):
 Calls prog 46 #[.pointer (some ⟨fb,0,none⟩),.int .i64 i] w fun e w'=>V3 w0 fb mb N F ar l2 (bo F (bW N i)) e w':=by
 have lj:=h.look hi w rfl;have q0:=h.kP;have hv:=hF.Za i;generalize bW N i=u at lj hv ⊢;have hf:=fun wx=>eQ u wx
 obtain⟨B,hB⟩:=aa w.heap.size;have h1:=h.aY 107 [.int .i64 u.id,.int .i64 u.aA,.int .i64 u.up,.int .i64 u.aB,.string u.aL,.pointer u.ptr];rw[hB]at h1;unfold NV.val at lj hf
 cases ji:(u.aA==1)with
 |false=>
  rw[ji]at hf;have lI:¬u.aA=1:=by simpa using ji
  have hE:bo F u=[]:=by unfold bo;rw[if_neg lI]
  rw[hE];have H1:=aq h1;have Hf:=aq hf;clear hf lI hE hv h h1 hF hi;go_enter func46,ntmps46;go_wp2_with fail;refine(an Hf _).mono ?_;rintro e w4 ⟨rfl,iU⟩;have H4:=aq ((an H1).step iU);clear iU Hf H1;go_wp2_with fail;go_ret;exact⟨_,rfl,((an H4).aD []).fJ 100 2⟩
 |true=>
  rw[ji]at hf;have lI:u.aA=1:=by simpa using ji
  obtain⟨tb,jh,ht⟩:=hv.1 lI;have yW:u.ptr=some ⟨tb,0,none⟩:=by unfold NV.ptr;rw[jh];rfl
  have MF:bo F u=aX F tb:=by unfold bo bp;rw[if_pos lI,jh]
  rw[MF];have hl:(aX F tb).length<=900:=(show zo 900 F from hF.aF).look tb;have hM:=fun wx l (hx:aJ w0 wx fb mb N F ar l)=>UC hF ht wx l hx
  have hA:=fun wx l (hx:aJ w0 wx fb mb N F ar l)=>S9 hF ht ⟨#[]⟩ (aX F tb).length (by omega) (by omega) wx l hx
  have gr:(bC (aX F tb) ⟨#[]⟩).take (aX F tb).length=aX F tb:=by rw[Full.after (fun x hx=>hF.full _ (dh ht) x hx),take_of_length_le (Nat.le_refl _)]
  rw[Int.toNat_natCast,gr]at hA;rw[yW]at h1 hf lj;generalize aX F tb=L at hM hA hl ⊢;obtain⟨nl,AZ⟩:=aa L.length;rw[AZ]at hM hA hl;have HM:=aq hM;have HA:=aq hA;have H1:=aq h1;have Hf:=aq hf;clear hf hM hA lI hv h h1 hF hi yW MF jh ht gr ji AZ;go_enter func46,ntmps46;go_wp2_with fail;refine(an Hf _).mono ?_;rintro e w4 ⟨rfl,iU⟩;have h4:=(an H1).step iU;obtain⟨k0,k1,k2,k3,k4,k5,_⟩:=h4.mP (b:=B) ae;have H4:=aq h4;clear iU Hf H1 h4 lj q0 hB k0 k1 k2 k3 k4;go_wp2_with fail
  go_cut [4]from 15 to 21 (fun a4 wc=>Hid (aJ w0 wc fb mb N F ar (kL a4 L::l2)))
  case first=>
   go_region_with (first|(go_at_call 90;refine(an HM _ _ (an H4).drew).mono ?_;rintro e w5 ⟨rfl,h5⟩;have k6:=(h5.mP (b:=B) ae).2.2.2.2.2.1;have H5:=aq h5;clear h5)|(go_at_call 89;refine(an HA _ _ (an H5)).mono ?_;rintro e w6 ⟨v,rfl,h6⟩;have H6:=aq h6;clear h6))
   all_goals (go_wp2_with fail;go_meet;exact aJ.aD [_] (an H6))
  case rest=>
   go_wp2_with fail
   go_ret;exact⟨_,rfl,an hcut⟩
end
open Go.Sort
open Go.Maps (Keyed)
instance:Inhabited NV:=⟨NV.zero⟩
def lp (u:NV):List Value:=[.int .i64 u.id,.int .i64 u.aA,.int .i64 u.up,.int .i64 u.aB,.string u.aL]
def mj (L:List NV):List Value:=L.flatMap lp
theorem mJ (L:List NV):(mj L).length=L.length*5:=by
 induction L with
 |nil=>rfl
 |cons x L ih=>simp[mj,lp]at ih ⊢;omega
theorem Bl (L:List NV) (x:NV):mj (L++[x])=mj L++lp x:=by simp[mj]
theorem xp:∀(L:List NV) (j:Nat) (u:NV),L[j]? = some u->∀i x,(lp u)[i]? = some x->(mj L)[j*5+i]? = some x
 |y::L,0,u,h,i,x,hx=>by
  have e:y=u:=by simpa using h
  subst e;have hi:i<(lp y).length:=(List.getElem?_eq_some_iff.1 hx).1
  show(lp y++mj L)[0*5+i]? = some x;rw[Nat.zero_mul,Nat.zero_add,getElem?_append_left hi];exact hx
 |y::L,j+1,u,h,i,x,hx=>by have:=xp L j u (by simpa using h) i x hx;show(lp y++mj L)[(j+1)*5+i]? = some x;rw[getElem?_append_right (by simp[lp];omega)];simp only[lp,length_cons,length_nil];rw[show(j+1)*5+i-(0+1+1+1+1+1)=j*5+i by omega];exact this
def gL (v:Value) (L:List NV):aI:=.row v 52 5 L.length (mj L)
theorem IA:(prog.info? 52).map (fun i=>(i.zero,i.size,i.bytes))=some (some (.agg #[.int .i64 0,.int .i64 0,.int .i64 0,.int .i64 0,.string ⟨#[]⟩]),5,48):=by kernel_rfl
theorem Db {w:World} {au g n aU:Nat} {L:List NV} (h:w.ownsRow au 52 5 (.slice (some ⟨g,0,none⟩) n aU) n (mj L)) {j:Nat} {u:NV} (hk:L[j]? = some u):
 w.cell? ⟨g,j*5,none⟩=some (.int .i64 u.id)/\w.cell? ⟨g,j*5+1,none⟩=some (.int .i64 u.aA)/\w.cell? ⟨g,j*5+2,none⟩=some (.int .i64 u.up)/\w.cell? ⟨g,j*5+3,none⟩=some (.int .i64 u.aB)/\w.cell? ⟨g,j*5+4,none⟩=some (.string u.aL):=by
 have hl:L.length*5=n*5:=by rw[<-h.1,mJ]
 obtain⟨hj,_⟩:=List.getElem?_eq_some_iff.1 hk;have h1:=xp L j u hk;exact⟨by rw[h.cellAt _ (by omega)];exact h1 0 _ rfl,by rw[h.cellAt _ (by omega)];exact h1 1 _ rfl,by rw[h.cellAt _ (by omega)];exact h1 2 _ rfl,by rw[h.cellAt _ (by omega)];exact h1 3 _ rfl,by rw[h.cellAt _ (by omega)];exact h1 4 _ rfl⟩
def FH (x y:Int):Int:=if x<y then -1 else if y<x then 1 else 0
theorem Ix (x:Int) (w:World):Calls prog 126 #[.int .i64 x] w fun e w'=>e=.returned (.bool false)/\w'=w:=by
 go_enter func126,ntmps126;go_wp2_with fail;go_ret;exact⟨by simp,rfl⟩
theorem BG (x y:Int) (w:World):Calls prog 86 #[.int .i64 x,.int .i64 y] w fun e w'=>e=.returned (.int .i64 (FH x y))/\w'=w:=by
 have hn:=fun z wx=>Ix z wx
 unfold FH
 by_cases h1:x<y
 ·rw[if_pos h1];go_enter func86,ntmps86;go_wp2_with fail;refine(hn _ _).mono ?_;rintro e wx ⟨rfl,rfl⟩;go_wp2_with fail;refine(hn _ _).mono ?_;rintro e wx ⟨rfl,rfl⟩;go_wp2_with fail;go_ret;exact⟨rfl,rfl⟩
 ·rw[if_neg h1]
  by_cases h2:y<x
  ·rw[if_pos h2];go_enter func86,ntmps86;go_wp2_with fail;refine(hn _ _).mono ?_;rintro e wx ⟨rfl,rfl⟩;go_wp2_with fail;refine(hn _ _).mono ?_;rintro e wx ⟨rfl,rfl⟩;go_wp2_with fail;go_ret;exact⟨rfl,rfl⟩
  ·rw[if_neg h2];go_enter func86,ntmps86;go_wp2_with fail;refine(hn _ _).mono ?_;rintro e wx ⟨rfl,rfl⟩;go_wp2_with fail;refine(hn _ _).mono ?_;rintro e wx ⟨rfl,rfl⟩;go_wp2_with fail;go_ret;exact⟨rfl,rfl⟩
theorem Lx (x y:NV) (W:World):Calls prog 85 #[.agg (lp x).toArray,.agg (lp y).toArray] W fun e w'=>e=.returned (.int .i64 (FH x.id y.id))/\∃q os',w'=grow (W.drewN q) os':=by
 have hc:=fun wx=>BG x.id y.id wx
 generalize FH x.id y.id=r at hc ⊢;have HC:=aq hc;clear hc;simp only[lp];go_enter func85,ntmps85;go_wp2_with fail;refine(an HC _).mono ?_;rintro e wx ⟨rfl,dE⟩;have dE:=dE.symm;subst dE;go_wp2_with fail;go_ret;exact⟨rfl,0,_,by rw[alloc_eq_grow,alloc_eq_grow,grow_grow];rfl⟩
theorem zF (x y:NV):ltOf (fun a b:NV=>FH a.id b.id) x y=decide (x.id<y.id):=by
 show decide (FH x.id y.id<0)=decide (x.id<y.id);unfold FH
 by_cases h1:x.id<y.id
 ·simp[h1]
 ·rw[if_neg h1]
  by_cases h2:y.id<x.id
  ·simp[h1,h2]
  ·simp[h1,h2]
theorem ads:SWO (ltOf fun a b:NV=>FH a.id b.id) where
 irrefl x:=by rw[zF];simp
 trans x y z h1 h2:=by rw[zF]at *;simp at *;omega
 ntrans x y z h1 h2:=by rw[zF]at *;simp at *;omega
theorem yw (L:List NV):flatK lp 5 L.toArray=(mj L).toArray:=by
 apply Array.ext_getElem?;intro t
 by_cases ht:t<L.length*5
 ·have hk:t / 5<L.length:=by omega
  have hr:t%5<5:=Nat.mod_lt _ (by omega);have h0:t<(flatK lp 5 L.toArray).size:=by simpa using ht
  have h1:=get_flatK lp 5 L.toArray t (by simpa using ht);rw[getElem!_pos (flatK lp 5 L.toArray) t h0]at h1;rw[Array.getElem?_eq_getElem h0,h1]
  have h2:L.toArray[t / 5]! = L[t / 5]:=by simp only[getElem!_toArray];rw[getElem!_pos L _ hk]
  rw[h2];have h3:(lp L[t / 5]).length=5:=rfl;have h5:t%5<(lp L[t / 5]).length:=by rw[h3];exact hr
  have h4:=xp L (t / 5) L[t / 5] (getElem?_eq_getElem hk) (t%5) ((lp L[t / 5])[t%5]!) (by rw[getElem!_pos (lp L[t / 5]) (t%5) h5];exact getElem?_eq_getElem h5);rw[show t / 5*5+t%5=t by omega]at h4;rw[getElem?_toArray];exact h4.symm
 ·rw[Array.getElem?_eq_none (by simp;omega),Array.getElem?_eq_none (by simp[mJ];omega)]
theorem L9 {w:World} {au g n aU:Nat} {t:TypeId} {k:Nat} {xs ys:List Value} (h:w.ownsRow au t k (.slice (some ⟨g,0,none⟩) n aU) n xs) (hl:ys.length=xs.length) (m:Nat) (os:Array Obj):
 (grow (putRow id (Go.Sort.ahead w m) g 0 ys.toArray) os).ownsRow au t k (.slice (some ⟨g,0,none⟩) n aU) n ys/\w.grownBy (grow (putRow id (Go.Sort.ahead w m) g 0 ys.toArray) os) (some g):=by
 obtain⟨hx,h2⟩:=h
 rcases h2 with⟨hh,_⟩|⟨g',cap',cur,hv,hb,hg,hn,hm,hc,ht⟩
 ·cases hh
 injection hv with mv _ wE;injection mv with mv;injection mv with mv;subst mv wE;have eO:g<w.heap.size:=(Array.getElem?_eq_some_iff.1 hg).1;have gP:(putRow id (Go.Sort.ahead w m) g 0 ys.toArray).heap.size=w.heap.size:=by simp[putRow,mapBlock,Go.Sort.ahead]
 have hblk:(putRow id (Go.Sort.ahead w m) g 0 ys.toArray).heap[g]? = some (.cells (putCells id 0 ys.toArray cur) t (0,0)):=by unfold putRow mapBlock;show((w.heap.modify g _))[g]? = _;rw[Array.getElem?_modify,if_pos rfl,hg];rfl
 have hle:n*k<=cur.size:=by rw[hc];exact Nat.mul_le_mul_right k hn
 refine⟨⟨by rw[hl];exact hx,.inr ⟨g,aU,putCells id 0 ys.toArray cur,rfl,hb,?_,hn,hm,by simp[putCells,hc],?_⟩⟩,⟨rfl,rfl,rfl,?_,fun i hi dr=>?_⟩⟩
 ·show((putRow id (Go.Sort.ahead w m) g 0 ys.toArray).heap++os)[g]? = _;rw[Array.getElem?_append_left (by rw[gP];exact eO)];exact hblk
 ·apply ext_getElem?;intro j
  by_cases hj:j<n*k
  ·have hjy:j<ys.length:=by omega
   rw[getElem?_take_of_lt hj,Array.getElem?_toList];unfold putCells;rw[Array.getElem?_mapIdx,Array.getElem?_eq_getElem (by omega)];simp only[Option.map_some,size_toArray,Nat.zero_le,Nat.zero_add,true_and,if_pos hjy,Nat.sub_zero,id,getElem!_toArray];rw[getElem!_pos ys j hjy,getElem?_eq_getElem hjy]
  ·rw[getElem?_eq_none (by rw[length_take];omega),getElem?_eq_none (by omega)]
 ·show w.heap.size<=((putRow id (Go.Sort.ahead w m) g 0 ys.toArray).heap++os).size;rw[Array.size_append,gP];omega
 ·show((putRow id (Go.Sort.ahead w m) g 0 ys.toArray).heap++os)[i]? = _;rw[Array.getElem?_append_left (by rw[gP];exact hi)];unfold putRow mapBlock
  show((w.heap.modify g _))[i]? = _;rw[Array.getElem?_modify,if_neg (fun e=>dr (by rw[e]))]
theorem Dp {w:World} {au g n aU:Nat} {t:TypeId} {k:Nat} {xs:List Value} (h:w.ownsRow au t k (.slice (some ⟨g,0,none⟩) n aU) n xs):Holds id w g 0 xs.toArray:=by
 intro j hj;have PY:j<xs.length:=by simpa using hj
 rw[Nat.zero_add];refine⟨?_,h.frozenAt j⟩;rw[h.cellAt j (by have:=h.1;omega)];simp only[id,getElem!_toArray];rw[getElem!_pos xs j PY,getElem?_eq_getElem PY]
theorem yO {w:World} {au g n aU:Nat} {L:List NV} (h:w.ownsRow au 52 5 (.slice (some ⟨g,0,none⟩) n aU) n (mj L)) (hl:L.length=n) (hn:n<=1000):
 Calls prog 84 #[.slice (some ⟨g,0,none⟩) n aU,.func (.func 85) #[] #[]] w fun e w'=>e=.returned (.tuple #[])/\∃L',L'.Perm L/\L'.Pairwise (fun a b=>a.id<=b.id)/\w'.ownsRow au 52 5 (.slice (some ⟨g,0,none⟩) n aU) n (mj L')/\w.grownBy w' (some g):=by
 have eg:∀args w,(callFunc 85 args).run prog w=.ok (.enter 85 args) w:=enters_of func85 (by kernel_rfl) rfl
 have hH:HoldsK lp 5 w g 0 L.toArray:=by unfold HoldsK;rw[yw];exact Dp h
 have eO:g<w.heap.size:=by
  rcases h.2 with⟨hh,_⟩|⟨g',cap',cur,hv,hb,hg,_⟩
  ·cases hh
  ·injection hv with mv _ _;injection mv with mv;injection mv with mv;subst mv;exact(Array.getElem?_eq_some_iff.1 hg).1
 have hc:=AnyQ.slices_SortFunc Nv 5 isAgg52 sizeOf52 lp (fun _=>rfl) (fun x v hv=>by simp[lp]at hv;rcases hv with rfl|rfl|rfl|rfl|rfl<;>rfl) (fun a b:NV=>FH a.id b.id) ads 85 #[] g 0 aU L.toArray w eg (fun _ _ _ _ x y=>Lx x y _) hH eO (by simp;omega);have e1:L.toArray.size=n:=by simp[hl]
 rw[e1]at hc;refine Calls.mono (show Calls prog 84 _ _ _ from hc) ?_;rintro e w' ⟨he,d',m,os,⟨hs,_,hp⟩,tJ,rfl⟩;have J9:d'.size=n:=by rw[hs,e1]
 have hd:d'.toList.length=n:=by simpa using J9
 have hex:(d'.extract 0 n).toList=d'.toList:=by rw[<-J9];simp
 have X9:(L.toArray.extract 0 n).toList=L:=by rw[<-hl];simp
 rw[hex,X9]at hp
 have hk:flatK lp 5 d'=(mj d'.toList).toArray:=by have:=yw d'.toList;simpa using this
 have hr:=L9 h (ys:=mj d'.toList) (by rw[mJ,mJ,hd,hl]) m os
 have hw:sortWorldK lp 5 w g 0 m d' os=grow (putRow id (Go.Sort.ahead w m) g 0 (mj d'.toList).toArray) os:=by unfold sortWorldK putRowK;rw[hk]
 rw[hw];refine⟨he,d'.toList,hp,?_,hr⟩;rw[pairwise_iff_getElem];intro i j hi hj hij;have h1:=tJ i j (by omega) hij (by omega);rw[zF]at h1;have Zk:i<d'.size:=by simpa using hi
 have PY:j<d'.size:=by simpa using hj
 rw[getElem!_pos d' i Zk,getElem!_pos d' j PY]at h1;have h2:¬d'[j].id<d'[i].id:=of_decide_eq_false h1
 have:d'.toList[i].id<=d'.toList[j].id:=by rw[Array.getElem_toList,Array.getElem_toList];omega
 exact this
end Go.Proofs.YtphcnmlbieokoaaGreatDoor.T
