import Derived.Test.YtphcnmlbieokoaaGreatDoorC18
set_option maxRecDepth 100000
set_option maxHeartbeats 16000000
set_option linter.unusedVariables false
set_option linter.unusedSimpArgs false
namespace Go.Proofs.YtphcnmlbieokoaaGreatDoor.T
open Go.RowKit List Go.Proofs.Tryz
section
def dz (E:List DE) (i:Int):List aG:=match E.find? (fun e=>e.aP==i)with|some e=>e.items|none=>[]
def zB (E:List DE) (u:NV):List aG:=if u.aA=1 then eE (dz E u.id)else []
structure Y8 (E:List DE) (F':aC) (u v:NV):Prop where
 id:v.id=u.id
 aA:v.aA=u.aA
 up:v.up=u.up
 aB:v.aB=u.aB
 aL:v.aL=u.aL
 gA:bo F' v=zB E u
 tree:v.aA=1->∃tb,v.tb=some tb/\tb∈F'.map (·.1)
inductive jT (E:List DE) (F':aC):List NV->List NV->Prop
 |nil:jT E F' [] []
 |snoc {A B:List NV} {u v:NV}:jT E F' A B->Y8 E F' u v->WX B v->jT E F' (A++[u]) (B++[v])
theorem jT.more {E:List DE} {F':aC} {A B:List NV} {tb:Nat} {L:List aG} (h:jT E F' A B) (hn:tb∉F'.map (·.1)):jT E ((tb,L)::F') A B:=by
 induction h with
 |nil=>exact .nil
 |snoc _ ht fr ih=>exact .snoc ih ⟨ht.id,ht.aA,ht.up,ht.aB,ht.aL,by rw[s5 ht.tree hn];exact ht.gA,fun hk=>by obtain⟨t,e,ht⟩:=ht.tree hk;exact⟨t,e,by simp;exact .inr (by simpa using ht)⟩⟩ fr
theorem jT.ids {E:List DE} {F':aC} {A B:List NV} (h:jT E F' A B):B.map NV.id=A.map NV.id:=by
 induction h with
 |nil=>rfl
 |snoc _ ht _ ih=>rw[map_append,map_append,ih,map_cons,map_cons,ht.id]
theorem jT.fresh {E:List DE} {F':aC} {A B:List NV} (h:jT E F' A B) {tb:Nat} (hn:tb∉F'.map (·.1)):∀u∈B,u.aA=1->u.tb≠some tb:=by
 induction h with
 |nil=>intro u hu;cases hu
 |snoc _ ht _ ih=>
  intro u hu hk e
  rcases mem_append.1 hu with hu|hu
  ·exact ih u hu hk e
  ·rw[mem_singleton.1 hu]at hk e;obtain⟨t,e1,h1⟩:=ht.tree hk;rw[e1]at e
   cases e
   exact hn h1
theorem H0.fsN {w0 w:World} {l2:List aI} (h:H0 w0 w l2) (hb:w0.heap.size<=w.heap.size) (ar:Int):aJ w0 ((w.alloc (.map #[] 0)).alloc (.cells #[.map (some w.heap.size),.int .i64 ar] 126)) (w.heap.size+1) w.heap.size [] [] ar l2:=by
 have h1:=aw.rP h hb;have h2:=aw.aY h1 (by simp;omega) 126 [.map (some w.heap.size),.int .i64 ar];rw[World.size_alloc]at h2;exact⟨[],.nil,h2⟩
def FT (E:List DE) (F' F2:aC) (u v:NV):Prop:=
 v.id=u.id/\v.aA=u.aA/\v.up=u.up/\v.aB=u.aB/\v.aL=u.aL/\((u.aA≠1/\F2=F'/\v.tb=none)∨(u.aA=1/\∃tb,tb∉F'.map (·.1)/\F2=(tb,eE (dz E u.id))::F'/\v.tb=some tb))
theorem jT.add {E:List DE} {F' F2:aC} {A B:List NV} {u v:NV} (h:jT E F' A B) (hn:FT E F' F2 u v):jT E F2 (A++[u]) (B++[v]):=by
 obtain⟨h1,h2,h3,h4,h5,h6⟩:=hn
 rcases h6 with⟨hk,rfl,ht⟩|⟨hk,tb,hf,rfl,ht⟩
 ·refine .snoc h ⟨h1,h2,h3,h4,h5,?_,fun hv=>absurd (h2▸hv) hk⟩ (fun hv=>absurd (h2▸hv) hk);unfold bo zB;rw[h2,if_neg hk,if_neg hk]
 ·refine .snoc (h.more hf) ⟨h1,h2,h3,h4,h5,?_,fun _=>⟨tb,ht,by simp⟩⟩ (fun _=>by rw[ht];exact h.fresh hf);unfold bo zB bp;rw[h2,if_pos hk,if_pos hk,ht];simp[aX]
variable {w0 w:World} {l0:List aI} {E:List DE} {eb:Nat}
theorem N9 (h:aI.Sat w0.heap.size w (.obj eb (P.cy (E.map DE.pv)))) (hn:(E.map DE.aP).Nodup) {i:Int} (hi:kg i):
 (∃e∈E,e.aP=i/\dz E i=e.items/\(Instr.lookup 82 (.map (some eb)) (.int .i64 i) false).run prog w=.ok e.v w)∨((∀e∈E,e.aP≠i)/\dz E i=[]/\(Instr.lookup 82 (.map (some eb)) (.int .i64 i) false).run prog w=.ok (.slice none 0 0) w):=by
 have h1:=P.Ex h hi;unfold P.S3 at h1
 have aa0:E.find? (fun e=>e.aP==i)=none/\(P.bX (E.map DE.pv) i=none)∨∃e,E.find? (fun e=>e.aP==i)=some e/\P.bX (E.map DE.pv) i=some e.pv:=by
  clear h h1 hn
  induction E with
  |nil=>exact .inl ⟨rfl,rfl⟩
  |cons e E ih=>
   by_cases he:(e.aP==i)=true
   ·exact .inr ⟨e,find?_cons_of_pos (p:=fun e:DE=>e.aP==i) he,by unfold P.bX;exact find?_cons_of_pos (p:=fun v:P.PV=>v.id==i) (a:=e.pv) he⟩
   ·rcases ih with⟨a,b⟩|⟨x,a,b⟩
    ·exact .inl ⟨(find?_cons_of_neg (p:=fun e:DE=>e.aP==i) he).trans a,by unfold P.bX at b ⊢;exact(find?_cons_of_neg (p:=fun v:P.PV=>v.id==i) (a:=e.pv) he).trans b⟩
    ·exact .inr ⟨x,(find?_cons_of_neg (p:=fun e:DE=>e.aP==i) he).trans a,by unfold P.bX at b ⊢;exact(find?_cons_of_neg (p:=fun v:P.PV=>v.id==i) (a:=e.pv) he).trans b⟩
 rcases aa0 with⟨a,b⟩|⟨e,a,b⟩
 ·refine .inr ⟨fun e he e2=>?_,by unfold dz;rw[a],by rw[b]at h1;exact h1⟩;have:=find?_eq_none.1 a e he;exact this (by simpa using e2)
 ·refine .inl ⟨e,mem_of_find?_eq_some a,by have:=find?_some a;simpa using this,by unfold dz;rw[a],by rw[b]at h1;exact h1⟩
theorem Kq (hR:bF w0) {fb mb:Nat} {N':List NV} {F':aC} {ar:Int} {lx:List aI} (h:aJ w0 w fb mb N' F' ar lx) (u:NV) (ev:Value) (WE:(u.aA=1/\kL ev (dz E u.id)∈lx/\(dz E u.id).length<=1000/\∀x∈dz E u.id,x.az=dP x.name/\aR x.name=none)∨(ev=.slice none 0 0/\(u.aA=1->dz E u.id=[]))):
 Calls prog 83 #[.agg #[.int .i64 u.id,.int .i64 u.aA,.int .i64 u.up,.int .i64 u.aB,.string u.aL],ev] w fun e w'=>∃v F2,e=.returned v.val/\FT E F' F2 u v/\aJ w0 w' fb mb N' F2 ar lx:=by
 have fresh:∀{w':World} {tb:Nat} {L:List aG},aJ w0 w' fb mb N' ((tb,L)::F') ar lx->tb∉F'.map (·.1):=fun hx=>by have:=hx.nodup;rw[map_cons,nodup_cons]at this;exact this.1
 rcases WE with⟨hk,hm,hl,hL⟩|⟨rfl,jd⟩
 ·rw[hk];refine(Ic hR h u.id u.up u.aB u.aL hm hl hL).mono ?_;rintro e w' ⟨tb,rfl,h2⟩;exact⟨⟨u.id,1,u.up,u.aB,u.aL,some tb⟩,_,rfl,⟨rfl,hk.symm,rfl,rfl,rfl,.inr ⟨hk,tb,fresh h2,rfl,rfl⟩⟩,h2⟩
 ·by_cases hk:u.aA=1
  ·rw[hk];refine(oD w0 w fb mb N' F' ar lx h u.id u.up u.aB u.aL).mono ?_;rintro e w' ⟨tb,rfl,h2⟩;exact⟨⟨u.id,1,u.up,u.aB,u.aL,some tb⟩,_,rfl,⟨rfl,hk.symm,rfl,rfl,rfl,.inr ⟨hk,tb,fresh h2,by rw[jd hk];rfl,rfl⟩⟩,h2⟩
  ·refine(yc w0 w fb mb N' F' ar lx h u.id u.aA u.up u.aB u.aL hk).mono ?_;rintro e w' ⟨rfl,h2⟩;exact⟨⟨u.id,u.aA,u.up,u.aB,u.aL,none⟩,_,rfl,⟨rfl,rfl,rfl,rfl,rfl,.inl ⟨hk,rfl,rfl⟩⟩,h2⟩
theorem Xv (hR:bF w0) (h:H0 w0 w l0) (he:aI.obj eb (P.cy (E.map DE.pv))∈l0) (Dl:∀e∈E,kL e.v e.items∈l0) {vN:Value} {L:List NV} (hL:gL vN L∈l0) (hl:L.length<=16) (A5:0<L.length) (hid:∀u∈L,kg u.id) (A3:(L.map NV.id).Nodup) (hE:(E.map DE.aP).Nodup)
 (hI:∀e∈E,e.items.length<=1000/\(∀x∈e.items,x.az=dP x.name/\aR x.name=none)) (hk:∀u∈L,u.aA≠1->∀e∈E,e.aP≠u.id) (ar:Int):
 Calls prog 41 #[vN,.map (some eb),.int .i64 ar] w fun e w'=>∃fb mb N' F',e=.returned (.pointer (some ⟨fb,0,none⟩))/\jT E F' L N'/\(∀x∈F',∃u∈L,u.aA=1/\x.2=eE (dz E u.id))/\aJ w0 w' fb mb N' F' ar l0:=by
 have hb0:=(H0.below h).size;have h1:=H0.fsN h hb0 ar;obtain⟨mb,My⟩:=aa w.heap.size;rw[My]at h1;obtain⟨w1,iD⟩:=aa ((w.alloc (.map #[] 0)).alloc (.cells #[.map (some mb),.int .i64 ar] 126));rw[iD]at h1;have dW:=h1.rowAt (v:=vN) (e:=52) (k:=5) hL;obtain⟨g,aU,rfl,_⟩:=aZ dW A5;have qZ:=@run_makeMap prog;obtain⟨n,hn⟩:=aa L.length;have Hn:=aq hn;have H1:Hid (∃N' F',jT E F' (L.take 0) N'/\(∀x∈F',∃u∈L,u.aA=1/\x.2=eE (dz E u.id))/\aJ w0 w1 (mb+1) mb N' F' ar l0):=⟨[],[],.nil,by simp,h1⟩
 have HLm:=aq hL;have HR:=aq hR;have HEm:=aq he;have J5:=aq Dl;have HId:=aq hid;have HNd:=aq A3;have HE:=aq hE;have HI:=aq hI;have HK:=aq hk;rw[hn]at hl ⊢;clear h h1 dW hR he Dl hid A3 hE hI hk hL A5 hn;go_enter func41,ntmps41;go_wp2_with fail
 go_loopg [16] (n+1) (fun k vi wr=>∃i:Nat,n-i<k/\i<=n/\vi=.int .i64 i/\Hid (∃N' F',jT E F' (L.take i) N'/\(∀x∈F',∃u∈L,u.aA=1/\x.2=eE (dz E u.id))/\aJ w0 wr (mb+1) mb N' F' ar l0))
 case atStart=>exact⟨0,by omega,by omega,rfl,H1⟩
 case round=>
  obtain⟨i,hg,hi,rfl,VZ⟩:=hrel;clear H1
  by_cases gY:i<n
  ·have mI:(i:Int)<(n:Int):=by omega
   have Cc:i<L.length:=by rw[an Hn];exact gY
   obtain⟨u,hu⟩:∃u,L[i]? = some u:=⟨L[i],by simp[Cc]⟩;have huL:=mem_of_getElem? hu;obtain⟨N',F',hB,hD,hx⟩:=an VZ;have dW:=hx.rowAt (v:=.slice (some ⟨g,0,none⟩) L.length aU) (e:=52) (k:=5) (an HLm);rw[an Hn]at dW;obtain⟨c0,c1,c2,c3,c4⟩:=Db dW hu;have AV:=an HId u huL;have h3:=hx.aY 52 [.int .i64 u.id,.int .i64 u.aA,.int .i64 u.up,.int .i64 u.aB,.string u.aL];obtain⟨C,hC⟩:=aa wr.heap.size;rw[hC]at h3;obtain⟨w4,qy⟩:=aa (wr.alloc (.cells [.int .i64 u.id,.int .i64 u.aA,.int .i64 u.up,.int .i64 u.aB,.string u.aL].toArray 52))
   rw[qy]at h3;have aam:wr.alloc (.cells #[.int .i64 u.id,.int .i64 u.aA,.int .i64 u.up,.int .i64 u.aB,.string u.aL] 52)=w4:=qy;have Wt:=N9 (aw.sat (aJ.rest (aJ.drew h3)) (.obj eb (P.cy (E.map DE.pv))) (.tail _ (an HEm))) (an HE) AV
   obtain⟨ev,WE,jD⟩:∃ev,((u.aA=1/\kL ev (dz E u.id)∈(.cell C 52 [.int .i64 u.id,.int .i64 u.aA,.int .i64 u.up,.int .i64 u.aB,.string u.aL]::l0:List aI)/\(dz E u.id).length<=1000/\∀x∈dz E u.id,x.az=dP x.name/\aR x.name=none)∨(ev=.slice none 0 0/\(u.aA=1->dz E u.id=[])))/\(Instr.lookup 82 (.map (some eb)) (.int .i64 u.id) false).run prog w4.drew=.ok ev w4.drew:=by
    rcases Wt with⟨e,he,U7,hit,hr⟩|⟨nR,hit,hr⟩
    ·by_cases hk:u.aA=1
     ·exact⟨e.v,.inl ⟨hk,by rw[hit];exact .tail _ (an J5 e he),by rw[hit];exact(an HI e he).1,by rw[hit];exact(an HI e he).2⟩,hr⟩
     ·exact absurd U7 (an HK u huL hk e he)
    ·exact⟨_,.inr ⟨rfl,fun _=>hit⟩,hr⟩
   have nR:=Kq (E:=E) (an HR) (aJ.drew h3) u ev WE
   have hNl:N'.length=i:=by have:=congrArg List.length hB.ids;simp only[length_map,length_take]at this;omega
   have rZ:u.id∉N'.map NV.id:=by rw[hB.ids];intro hm;obtain⟨z,hz,We⟩:=mem_map.1 hm;obtain⟨q,hq,hzq⟩:=List.mem_take_iff_getElem.1 hz;have h7:=List.getElem?_eq_some_iff.1 hu;obtain⟨aey,hui⟩:=h7;have:=(nodup_iff_pairwise_ne.1 (an HNd));rw[pairwise_map]at this;have h8:=pairwise_iff_getElem.1 this q i (by omega) aey (by omega);rw[hui]at h8;exact h8 (by rw[<-We,<-hzq])
   have D0:Hid (∀wx M G l,aJ w0 wx (mb+1) mb M G ar l->aI.cell C 52 [.int .i64 u.id,.int .i64 u.aA,.int .i64 u.up,.int .i64 u.aB,.string u.aL]∈l->wx.cell? ⟨mb+1,0,none⟩=some (.map (some mb))/\wx.cell? ⟨C,0,none⟩=some (.int .i64 u.id)/\wx.cell? ⟨C,1,none⟩=some (.int .i64 u.aA)/\wx.cell? ⟨C,2,none⟩=some (.int .i64 u.up)/\wx.cell? ⟨C,3,none⟩=some (.int .i64 u.aB)/\wx.cell? ⟨C,4,none⟩=some (.string u.aL)):=fun wx M G l hx hm=>⟨hx.kP,hx.cellAt hm rfl,hx.cellAt hm rfl,hx.cellAt hm rfl,hx.cellAt hm rfl,hx.cellAt hm rfl⟩
   have rh:=aq (an D0 _ _ _ _ (aJ.drew h3) ae)
   have abl:Calls prog 83 #[.agg #[.int .i64 u.id,.int .i64 u.aA,.int .i64 u.up,.int .i64 u.aB,.string u.aL],ev] w4.drew fun e w'=>∃v F2 w6,e=.returned v.val/\FT E F' F2 u v/\Hid (w'.cell? ⟨mb+1,0,none⟩=some (.map (some mb))/\w'.cell? ⟨C,0,none⟩=some (.int .i64 u.id)/\w'.cell? ⟨C,1,none⟩=some (.int .i64 u.aA)/\w'.cell? ⟨C,2,none⟩=some (.int .i64 u.up)/\w'.cell? ⟨C,3,none⟩=some (.int .i64 u.aB)/\w'.cell? ⟨C,4,none⟩=some (.string u.aL))/\Sem.run prog (Instr.mapUpdate 124 (.map (some mb)) (.int .i64 u.id) v.val) w'=.ok () w6/\aJ w0 w6 (mb+1) mb (N'++[v]) F2 ar (.cell C 52 [.int .i64 u.id,.int .i64 u.aA,.int .i64 u.up,.int .i64 u.aB,.string u.aL]::l0):=by
    refine nR.mono ?_;rintro e w' ⟨v,F2,rfl,qC,h5⟩;obtain⟨w6,fq,h6⟩:=h5.nj (by omega) v (by rw[qC.1];exact AV);rw[wO (by rw[qC.1];exact rZ)]at h6;rw[qC.1]at fq;exact⟨v,F2,w6,rfl,qC,an D0 _ _ _ _ h5 ae,fq,h6⟩
   have Qc:=aq abl;have Hrun:=aq jD;have HB:=aq hB;have HD:=aq hD;have Hu:=aq hu;have HuL:=aq huL
   obtain⟨pe,ne,ce,uz⟩:∃p n c,ev=.slice p n c:=by
    rcases WE with⟨_,hm,_⟩|⟨rfl,_⟩
    ·obtain⟨p,c,h⟩:=jV (h3.rowAt hm);exact⟨p,_,c,h⟩
    ·exact⟨_,_,_,rfl⟩
   subst uz;clear Wt WE nR abl hB hD hx h3 dW hNl rZ hu huL AV VZ Cc qy;go_wp2_with fail
   go_region_held (fun w'=>w'.cell? ⟨mb+1,0,none⟩=some (.map (some mb))/\w'.cell? ⟨C,0,none⟩=some (.int .i64 u.id)/\w'.cell? ⟨C,1,none⟩=some (.int .i64 u.aA)/\w'.cell? ⟨C,2,none⟩=some (.int .i64 u.up)/\w'.cell? ⟨C,3,none⟩=some (.int .i64 u.aB)/\w'.cell? ⟨C,4,none⟩=some (.string u.aL)) (first|exact an xK|exact an M8|exact an rh) ((go_at_call 83;refine(an Qc).mono ?_;rintro e w5 ⟨v,F2,w6,rfl,qC,M8,fq,h6⟩;have xK:=aq (an D0 _ _ _ _ h6 ae);have H6:=aq h6;have abU:=aq qC;clear h6 qC))
   all_goals
    have h7:aJ w0 w6 (mb+1) mb (N'++[v]) F2 ar l0:=aJ.aD [] (an H6)
    have Gj:jT E F2 (L.take (i+1)) (N'++[v]):=by rw[wI (an Hu)];exact(an HB).add (an abU)
    have Cg:∀x∈F2,∃u∈L,u.aA=1/\x.2=eE (dz E u.id):=fun x hx=>by
     rcases(an abU).2.2.2.2.2 with⟨_,e1,_⟩|⟨hk,tb,_,e1,_⟩
     ·rw[e1]at hx;exact an HD x hx
     ·rw[e1]at hx
      rcases mem_cons.1 hx with rfl|hx
      ·exact⟨u,an HuL,hk,rfl⟩
      ·exact an HD x hx
    have H7:Hid (∃N' F',jT E F' (L.take (i+1)) N'/\(∀x∈F',∃u∈L,u.aA=1/\x.2=eE (dz E u.id))/\aJ w0 w6 (mb+1) mb N' F' ar l0):=⟨_,F2,Gj,Cg,h7⟩;clear h7 Gj Cg H6 xK M8 rh fq;go_wp2_with fail
    go_roundg (n-i)
    case measure=>omega
    case rel=>exact⟨i+1,by omega,by omega,by simp,H7⟩
  ·have mI:¬(i:Int)<(n:Int):=by omega
   obtain⟨N',F',hB,hD,hx⟩:=an VZ;rw[take_of_length_le (by rw[an Hn];omega)]at hB;have HB:=aq hB;have HD:=aq hD;have HX:=aq hx;clear hB hD hx VZ;go_wp2_with fail;go_ret;exact⟨mb+1,rfl,mb,N',F',an HB,fun p q h=>an HD (p,q) h,an HX⟩
end
def jO (p:ByteArray):Bool:=p.toList==[46]||p.toList==[46,46]
section
variable {N:List NV} {F:aC} {ar:Int}
theorem GX {i:Int}:∀{E:List (Int×aG)},b9 E i=1->∀{x y:Int×aG},x∈E->y∈E->x.2.aN=i->y.2.aN=i->x=y
 |[],h,x,y,hx,_,_,_=>by cases hx
 |e::E,h,x,y,hx,hy,h1,h2=>by
  unfold b9 at h;rw[countP_cons]at h
  by_cases he:e.2.aN=i
  ·rw[if_pos (by simpa using he)]at h
   have h0:∀z∈E,z.2.aN≠i:=fun z hz e2=>by have:=countP_eq_zero.1 (by omega:E.countP (fun x=>x.2.aN==i)=0) z hz;exact this (by simpa using e2)
   rcases mem_cons.1 hx with rfl|hx
   ·rcases mem_cons.1 hy with rfl|hy
    ·rfl
    ·exact absurd h2 (h0 y hy)
   ·exact absurd h1 (h0 x hx)
  ·rw[if_neg (by simpa using he),Nat.add_zero]at h
   rcases mem_cons.1 hx with rfl|hx
   ·exact absurd h1 he
   ·rcases mem_cons.1 hy with rfl|hy
    ·exact absurd h2 he
    ·exact GX (E:=E) h hx hy h1 h2
end
inductive Tag where
 |nx
 |nd (v:NV)
 |en (i:Int) (x:aG)
noncomputable def Tag.row (ar:Int):Tag->CH
 |.nx=>gw ar
 |.nd v=>dN v
 |.en i x=>gU i x
def Tag.aN:Tag->Option NV
 |.nd v=>some v
 |_=>none
def Tag.pair:Tag->Option (Int×aG)
 |.en i x=>some (i,x)
 |_=>none
def qK (N:List NV) (F:aC):List Tag:=.nx::N.flatMap fun v=>.nd v::(bo F v).map (Tag.en v.id)
def jI (T:List Tag):List NV:=T.filterMap Tag.aN
def lF (T:List Tag):List (Int×aG):=T.filterMap Tag.pair
theorem No (N:List NV) (F:aC) (ar:Int):(qK N F).map (Tag.row ar)=rowsOf F ar N:=by
 have h:∀M:List NV,(M.flatMap fun v=>Tag.nd v::(bo F v).map (Tag.en v.id)).map (Tag.row ar)=M.flatMap (cY F):=fun M=>by
  induction M with
  |nil=>rfl
  |cons v M ih=>rw[flatMap_cons,map_append,ih,flatMap_cons,map_cons,map_map];rfl
 unfold qK rowsOf;rw[map_cons,h];rfl
theorem Aa (N:List NV) (F:aC):jI (qK N F)=N:=by
 have h0:∀(i:Int) (L:List aG),(L.map (Tag.en i)).filterMap Tag.aN=[]:=fun i L=>by
  induction L with
  |nil=>rfl
  |cons x L ih=>rw[map_cons,filterMap_cons];exact ih
 have h:∀M:List NV,(M.flatMap fun v=>Tag.nd v::(bo F v).map (Tag.en v.id)).filterMap Tag.aN=M:=fun M=>by
  induction M with
  |nil=>rfl
  |cons v M ih=>rw[flatMap_cons,filterMap_append,ih,filterMap_cons];show(v::((bo F v).map (Tag.en v.id)).filterMap Tag.aN)++M=_;rw[h0];rfl
 exact h N
theorem z8 (N:List NV) (F:aC):lF (qK N F)=b7 N F:=by
 have h0:∀(i:Int) (L:List aG),(L.map (Tag.en i)).filterMap Tag.pair=jm i L:=fun i L=>by
  induction L with
  |nil=>rfl
  |cons x L ih=>rw[map_cons,filterMap_cons];show(i,x)::(L.map (Tag.en i)).filterMap Tag.pair=_;rw[ih];rfl
 have h:∀M:List NV,(M.flatMap fun v=>Tag.nd v::(bo F v).map (Tag.en v.id)).filterMap Tag.pair=b7 M F:=fun M=>by
  induction M with
  |nil=>rfl
  |cons v M ih=>rw[flatMap_cons,filterMap_append,ih,filterMap_cons];show((bo F v).map (Tag.en v.id)).filterMap Tag.pair++b7 M F=_;rw[h0];rfl
 exact h N
theorem NQ {α β:Type} {f:α->β}:∀{A B:List β},A.Perm B->∀L:List α,B=L.map f->∃T:List α,T.Perm L/\A=T.map f:=by
 intro A B h
 induction h with
 |nil=>intro L e;exact⟨[],by cases L with|nil=>exact .nil|cons x L=>simp at e,rfl⟩
 | @cons x l1 l2 h ih=>
  intro L e
  cases L with
  |nil=>simp at e
  |cons y L=>rw[map_cons]at e;injection e with e1 e2;obtain⟨T,hp,rfl⟩:=ih L e2;exact⟨y::T,hp.cons y,by rw[map_cons,e1]⟩
 | @swap x y l=>
  intro L e
  match L,e with
  |a::b::L,e=>rw[map_cons,map_cons]at e;injection e with e1 e2;injection e2 with e2 e3;exact⟨b::a::L,List.Perm.swap a b L,by rw[map_cons,map_cons,e1,e2,e3]⟩
 |trans _ _ ih1 ih2=>intro L e;obtain⟨T2,JW,rfl⟩:=ih2 L e;obtain⟨T1,Dm,e1⟩:=ih1 T2 rfl;exact⟨T1,Dm.trans JW,e1⟩
def jf (i:Int) (A:List (Int×aG)):List aG:=A.filterMap fun p=>if p.1=i then some p.2 else none
theorem Br (i:Int) (A:List (Int×aG)) (p:Int×aG):jf i (A++[p])=jf i A++if p.1=i then [p.2]else []:=by
 unfold jf;rw[filterMap_append]
 congr 1
 by_cases h:p.1=i
 ·simp[h]
 ·simp[h]
structure vY (A:List (Int×aG)) (M:List NV) (D:List DN) (E:List DE):Prop where
 dn:D.map (fun d=>(d.id,d.aA,d.up,d.tail))=M.map (fun v=>(v.id,(⟨#[if v.aA=1 then 100 else 102]⟩:ByteArray),v.up,bJ v.aB.toNat++v.aL))
 z:∀d∈D,d.named=0/\d.fr=0
 ef:(E.map DE.aP).Nodup
 ei:∀e∈E,e.items=jf e.aP A/\e.items≠[]
 ex:∀p∈A,∃e∈E,e.aP=p.1
 pr:(cG E).Perm A
 len:E.length<=A.length
theorem vY.start:vY [] [] [] []:=⟨rfl,by simp,by simp,by simp,by simp,.nil,by simp⟩
theorem vY.aN {A:List (Int×aG)} {M:List NV} {D:List DN} {E:List DE} (h:vY A M D E) (v:NV) (iA:Nat):vY A (M++[v]) (D++[⟨iA,v.id,⟨#[if v.aA=1 then 100 else 102]⟩,v.up,bJ v.aB.toNat++v.aL,0,0⟩]) E:=
 ⟨by rw[map_append,map_append,h.dn];rfl,fun d hd=>by
  rcases mem_append.1 hd with hd|hd
  ·exact h.z d hd
  ·rw[mem_singleton.1 hd];exact⟨rfl,rfl⟩,h.ef,h.ei,h.ex,h.pr,h.len⟩
theorem vY.ent {A:List (Int×aG)} {M:List NV} {D:List DN} {E E':List DE} {i:Int} {x:aG} (h:vY A M D E) (ha:FZ E E' i x):vY (A++[(i,x)]) M D E':=by
 rcases ha with⟨nR,v',rfl⟩|⟨E1,e,E2,v',rfl,hi,rfl⟩
 ·have X0:jf i A=[]:=by
   unfold jf;rw[filterMap_eq_nil_iff];intro p hp;obtain⟨e,he,hf⟩:=h.ex p hp;rw[if_neg];intro e2;exact nR (mem_map.2 ⟨e,he,by rw[hf,e2]⟩)
  refine⟨h.dn,h.z,?_,fun e he=>?_,fun p hp=>?_,?_,?_⟩
  ·rw[map_append,nodup_append];refine⟨h.ef,by simp,fun a ha b hb e=>?_⟩;simp at hb;subst hb;rw[e]at ha;exact nR ha
  ·rw[Br]
   rcases mem_append.1 he with he|he
   ·have dr:¬i=e.aP:=fun e2=>nR (mem_map.2 ⟨e,he,e2.symm⟩)
    rw[if_neg dr,append_nil];exact h.ei e he
   ·rw[mem_singleton.1 he];simp only;rw[X0];simp
  ·rcases mem_append.1 hp with hp|hp
   ·obtain⟨e,he,hf⟩:=h.ex p hp;exact⟨e,mem_append_left _ he,hf⟩
   ·rw[mem_singleton.1 hp];exact⟨_,mem_append_right _ (mem_singleton.2 rfl),rfl⟩
  ·have e1:cG (E++[⟨i,v',[x]⟩])=cG E++[(i,x)]:=by simp[cG,jm]
   rw[e1];exact h.pr.append_right _
  ·have:=h.len;simp only[length_append,length_cons,length_nil];omega
 ·have A3:=h.ef;rw[map_append,map_cons,nodup_append]at A3;have aaJ:(E1++(⟨i,v',e.items++[x]⟩:DE)::E2).map DE.aP=(E1++e::E2).map DE.aP:=by simp[hi]
  refine⟨h.dn,h.z,by rw[aaJ];exact h.ef,fun f hf=>?_,fun p hp=>?_,?_,?_⟩
  ·rw[Br]
   have qA:f∈E1++e::E2->f.aP≠i->f.items=jf f.aP A++(if i=f.aP then [x]else [])/\f.items≠[]:=fun hm dr=>by rw[if_neg (fun e2=>dr e2.symm),append_nil];exact h.ei f hm
   rcases mem_append.1 hf with hf|hf
   ·exact qA (mem_append_left _ hf) (by rw[<-hi];exact A3.2.2 f.aP (mem_map.2 ⟨f,hf,rfl⟩) e.aP (by simp))
   ·rcases mem_cons.1 hf with rfl|hf
    ·have:=h.ei e (by simp);rw[hi]at this;simp only;rw[<-this.1];simp
    ·exact qA (mem_append_right _ (mem_cons_of_mem _ hf)) (fun e2=>(nodup_cons.1 A3.2.1).1 (by rw[hi,<-e2];exact mem_map.2 ⟨f,hf,rfl⟩))
  ·have MC:∀j,(∃f∈E1++e::E2,f.aP=j)->∃f∈E1++(⟨i,v',e.items++[x]⟩:DE)::E2,f.aP=j:=fun j ⟨f,hf,e2⟩=>by
    have:j∈(E1++e::E2).map DE.aP:=mem_map.2 ⟨f,hf,e2⟩;rw[<-aaJ]at this;obtain⟨q,hq,e3⟩:=mem_map.1 this;exact⟨q,hq,e3⟩
   rcases mem_append.1 hp with hp|hp
   ·exact MC _ (h.ex p hp)
   ·rw[mem_singleton.1 hp];exact MC _ ⟨e,by simp,hi⟩
  ·have e1:(cG (E1++(⟨i,v',e.items++[x]⟩:DE)::E2)).Perm (cG (E1++e::E2)++[(i,x)]):=by
    have a1:cG (E1++(⟨i,v',e.items++[x]⟩:DE)::E2)=cG E1++(jm i e.items++[(i,x)]++cG E2):=by simp[cG,jm]
    have a2:cG (E1++e::E2)=cG E1++(jm i e.items++cG E2):=by simp[cG,hi]
    rw[a1,a2,append_assoc,append_assoc,append_assoc];exact List.Perm.append_left _ (List.Perm.append_left _ perm_append_comm)
   exact e1.trans (h.pr.append_right _)
  ·have:=h.len;simp only[length_append,length_cons]at this ⊢;omega
theorem Ep:∀(n:Nat) (L:List aG),L.length=n->(L.map aG.az).Nodup->bf (eE L)/\(eE L).Perm L:=by
 intro n
 induction n with
 |zero=>intro L hl _;have:L=[]:=eq_nil_of_length_eq_zero hl;subst this;exact⟨List.Pairwise.nil,.nil⟩
 |succ n ih=>
  intro L hl hn;have dr:L≠[]:=fun e=>by rw[e]at hl;simp at hl
  have mS:=dropLast_concat_getLast dr;generalize L.dropLast=L0 at mS;generalize L.getLast dr=x at mS;subst mS;have A5:L0.length=n:=by simpa using hl
  rw[map_append,nodup_append]at hn;obtain⟨h1,h2⟩:=ih L0 A5 hn.1;have hg:cF (eE L0) x.az=none:=pI fun y hy e=>hn.2.2 y.az (mem_map.2 ⟨y,h2.mem_iff.1 hy,rfl⟩) x.az (by simp) e
  rw[xZ];refine⟨gk h1,(sM hg).trans ((h2.cons x).trans ?_)⟩;exact(perm_append_comm (l₁:=[x]) (l₂:=L0))
theorem NO {L S:List aG} (hp:L.Perm S) (hs:bf S):eE L=S:=by
 have hk:(S.map aG.az).Nodup:=by refine pairwise_map.2 (hs.imp fun hk e=>?_);rw[e]at hk;exact eH _ hk
 obtain⟨h1,h2⟩:=Ep _ L rfl ((hp.map aG.az).nodup_iff.2 hk);exact(h2.trans hp).eq_of_pairwise (fun a b _ _ h3 h4=>absurd h4 (jC h3)) h1 hs
section
def Gk (w0 w9 w:World) (rs:List aI):Prop:=H0 w0 w rs/\Below w9.heap.size w9 w
section
variable {w0 w w' w9:World} {db nb eb:Nat} {D:List DN} {E:List DE} {ar:Int} {l:List aI} {A:List (Int×aG)} {B C:Nat} {x0 x1 x2 x3 x4 z0 z1 z2 z3 z4:Value} {d:DN}
abbrev JS (db nb eb:Nat) (A:List (Int×aG)) (D:List DN) (E:List DE) (ar:Int) (l:List aI) (B C:Nat) (x0 x1 x2 x3 x4 z0 z1 z2 z3 z4:Value):List aI:=eh db nb eb (mark A D) E ar (.cell C 52 [x0,x1,x2,x3,x4]::.cell B 52 [z0,z1,z2,z3,z4]::l)
theorem QW (hb:Below w.heap.size w w') (h:Hid (Gk w0 w9 w (JS db nb eb A D E ar l B C x0 x1 x2 x3 x4 z0 z1 z2 z3 z4))):Hid (Gk w0 w9 w' (JS db nb eb A D E ar l B C x0 x1 x2 x3 x4 z0 z1 z2 z3 z4)):=⟨H0.step (an h).1 hb,(an h).2.trans (hb.mono (an h).2.size)⟩
theorem Ev (h:Hid (Gk w0 w9 w (JS db nb eb A D E ar l B C x0 x1 x2 x3 x4 z0 z1 z2 z3 z4))) (hd:d∈D):
 w.cell? ⟨C,0,none⟩=some x0/\w.cell? ⟨C,1,none⟩=some x1/\w.cell? ⟨C,2,none⟩=some x2/\w.cell? ⟨C,3,none⟩=some x3/\w.cell? ⟨C,4,none⟩=some x4/\w.cell? ⟨d.iA,2,none⟩=some (.string d.tail)/\
 w.cell? ⟨B,0,none⟩=some z0/\w.cell? ⟨B,1,none⟩=some z1/\w.cell? ⟨B,2,none⟩=some z2/\w.cell? ⟨B,3,none⟩=some z3/\w.cell? ⟨B,4,none⟩=some z4/\
 w.frozen? ⟨B,0,none⟩=false/\w.frozen? ⟨B,1,none⟩=false/\w.frozen? ⟨B,2,none⟩=false/\w.frozen? ⟨B,3,none⟩=false/\w.frozen? ⟨B,4,none⟩=false:=by
 have H:=(an h).1;have hC:aI.cell C 52 [x0,x1,x2,x3,x4]∈JS db nb eb A D E ar l B C x0 x1 x2 x3 x4 z0 z1 z2 z3 z4:=by simp[JS,eh]
 have hB:aI.cell B 52 [z0,z1,z2,z3,z4]∈JS db nb eb A D E ar l B C x0 x1 x2 x3 x4 z0 z1 z2 z3 z4:=by simp[JS,eh]
 exact⟨aw.cellAt H hC rfl,aw.cellAt H hC rfl,aw.cellAt H hC rfl,aw.cellAt H hC rfl,aw.cellAt H hC rfl,(sj H hd).2.2.1,aw.cellAt H hB rfl,aw.cellAt H hB rfl,aw.cellAt H hB rfl,aw.cellAt H hB rfl,aw.cellAt H hB rfl,aw.frozenAt H hB _,aw.frozenAt H hB _,aw.frozenAt H hB _,aw.frozenAt H hB _,aw.frozenAt H hB _⟩
theorem QX (hB9:w9.heap.size<=B) (h:Hid (Gk w0 w9 w (JS db nb eb A D E ar l B C x0 x1 x2 x3 x4 z0 z1 z2 z3 z4))) (y0 y1 y2 y3 y4:Value):
 (((((w.setCell ⟨B,0,none⟩ y0).setCell ⟨B,1,none⟩ y1).setCell ⟨B,2,none⟩ y2).setCell ⟨B,3,none⟩ y3).setCell ⟨B,4,none⟩ y4).heap[B]? = some (.cells #[y0,y1,y2,y3,y4] 52 (0,0))/\
 H0 w0 (((((w.setCell ⟨B,0,none⟩ y0).setCell ⟨B,1,none⟩ y1).setCell ⟨B,2,none⟩ y2).setCell ⟨B,3,none⟩ y3).setCell ⟨B,4,none⟩ y4) (eh db nb eb (mark A D) E ar l)/\Below w9.heap.size w9 (((((w.setCell ⟨B,0,none⟩ y0).setCell ⟨B,1,none⟩ y1).setCell ⟨B,2,none⟩ y2).setCell ⟨B,3,none⟩ y3).setCell ⟨B,4,none⟩ y4):=by
 have H:=MS (FA (an h).1);have H1:=aw.store [] H 0 y0 [y0,z1,z2,z3,z4] rfl;have H2:=aw.store [] H1 1 y1 [y0,y1,z2,z3,z4] rfl;have H3:=aw.store [] H2 2 y2 [y0,y1,y2,z3,z4] rfl;have H4:=aw.store [] H3 3 y3 [y0,y1,y2,y3,z4] rfl;have H5:=aw.store [] H4 4 y4 [y0,y1,y2,y3,y4] rfl;exact⟨(aw.sat H5 (.cell B 52 [y0,y1,y2,y3,y4]) (by simp)).2,aw.conv H5 (fun x=>by simp only[nil_append,ax];omega) fun q hq=>aw.sat H5 q (by simp[hq]),(((((an h).2.setCell hB9 y0).setCell hB9 y1).setCell hB9 y2).setCell hB9 y3).setCell hB9 y4⟩
end
variable {w0 w w':World} {db nb eb:Nat} {D:List DN} {E:List DE} {ar:Int} {l:List aI} {A:List (Int×aG)}
theorem Ip (h:H0 w0 w (eh db nb eb (mark A D) E ar l)) (d:DN) (hd:d∈D) (zy:d.aA=⟨#[100]⟩) (uw:d.tail=bJ 1)
 (hh:∀wx lx,H0 w0 wx (eh db nb eb (mark A D) E ar lx)->Calls prog 123 #[.pointer (some ⟨db,0,none⟩),.int .i64 d.id] wx fun e w'=>e=.returned (.bool true)/\Below wx.heap.size wx w'):
 Calls prog 82 #[.pointer (some ⟨db,0,none⟩),.int .i64 d.id,.pointer (some ⟨d.iA,0,none⟩)] w fun e w'=>e=.returned (.tuple #[.agg #[.int .i64 d.id,.int .i64 1,.int .i64 d.up,.int .i64 1,.string ⟨#[]⟩],.bool true])/\H0 w0 w' (eh db nb eb (mark A D) E ar l)/\Below w.heap.size w w':=by
 have ht:∀wx,Calls prog 44 #[.int .i64 1] wx fun e w'=>e=.returned (.string (bJ 1))/\Below wx.heap.size wx w':=fun wx=>jl 1 (by decide) wx
 obtain⟨B,hB⟩:=aa w.heap.size;have h1:=jF (aw.aY h (H0.below h).size 52 [.int .i64 0,.int .i64 0,.int .i64 0,.int .i64 0,.string ⟨#[]⟩]);have hz:(w.alloc (.cells [.int .i64 0,.int .i64 0,.int .i64 0,.int .i64 0,.string ⟨#[]⟩].toArray 52)).heap.size=B+1:=by rw[World.size_alloc,hB]
 have h2:=jF (aw.aY h1 (H0.below h1).size 52 [.int .i64 d.id,.int .i64 1,.int .i64 d.up,.int .i64 1,.string ⟨#[]⟩]);rw[hz,hB]at h2;obtain⟨w2,PQ⟩:=aa ((w.alloc (.cells [.int .i64 0,.int .i64 0,.int .i64 0,.int .i64 0,.string ⟨#[]⟩].toArray 52)).alloc (.cells [.int .i64 d.id,.int .i64 1,.int .i64 d.up,.int .i64 1,.string ⟨#[]⟩].toArray 52))
 have mg:Below w.heap.size w w2:=by rw[<-PQ];exact((Below.refl _ w).alloc (Nat.le_refl _) _).alloc (by rw[World.size_alloc];omega) _
 rw[PQ]at h2;have ju:=sj h hd;have k0:=ju.1;have k1:=ju.2.1;rw[zy]at k0;have HH:Hid (Gk w0 w w2 (JS db nb eb A D E ar l B (B+1) (.int .i64 d.id) (.int .i64 1) (.int .i64 d.up) (.int .i64 1) (.string ⟨#[]⟩) (.int .i64 0) (.int .i64 0) (.int .i64 0) (.int .i64 0) (.string ⟨#[]⟩))):=⟨h2,mg⟩;have HD:Hid (Gk w0 w w2.drew (JS db nb eb A D E ar l B (B+1) (.int .i64 d.id) (.int .i64 1) (.int .i64 d.up) (.int .i64 1) (.string ⟨#[]⟩) (.int .i64 0) (.int .i64 0) (.int .i64 0) (.int .i64 0) (.string ⟨#[]⟩))):=⟨aw.drew h2,mg.drew⟩;have tL:=Ev HH hd;have Zq:aI.cell (B+1) 52 [.int .i64 d.id,.int .i64 1,.int .i64 d.up,.int .i64 1,.string ⟨#[]⟩]∈JS db nb eb A D E ar l B (B+1) (.int .i64 d.id) (.int .i64 1) (.int .i64 d.up) (.int .i64 1) (.string ⟨#[]⟩) (.int .i64 0) (.int .i64 0) (.int .i64 0) (.int .i64 0) (.string ⟨#[]⟩):=by simp[JS,eh]
 have q0:=aw.frozenAt h2 Zq 0;have q1:=aw.frozenAt h2 Zq 1;have q2:=aw.frozenAt h2 Zq 2;have q3:=aw.frozenAt h2 Zq 3;have q4:=aw.frozenAt h2 Zq 4;rw[uw]at tL;have Qa:=fun(wx wy:World) (hb:Below wx.heap.size wx wy) (h:Hid (Gk w0 w wx (JS db nb eb A D E ar l B (B+1) (.int .i64 d.id) (.int .i64 1) (.int .i64 d.up) (.int .i64 1) (.string ⟨#[]⟩) (.int .i64 0) (.int .i64 0) (.int .i64 0) (.int .i64 0) (.string ⟨#[]⟩))))=>(⟨QW hb h,Ev (QW hb h) hd⟩:_/\_)
 rw[uw]at Qa;have HHg:Hid (∀wx,Hid (Gk w0 w wx (JS db nb eb A D E ar l B (B+1) (.int .i64 d.id) (.int .i64 1) (.int .i64 d.up) (.int .i64 1) (.string ⟨#[]⟩) (.int .i64 0) (.int .i64 0) (.int .i64 0) (.int .i64 0) (.string ⟨#[]⟩)))->Calls prog 123 #[.pointer (some ⟨db,0,none⟩),.int .i64 d.id] wx fun e w'=>e=.returned (.bool true)/\Below wx.heap.size wx w'):=fun wx hx=>hh wx _ (an hx).1
 obtain⟨s1,rV⟩:=aa (bJ 1);rw[rV]at ht tL Qa;have HT:=aq ht;obtain⟨bd,A8⟩:=aa d.iA;obtain⟨id,hid⟩:=aa d.id;obtain⟨up,yW⟩:=aa d.up;rw[A8]at k0 k1 tL Qa ⊢;rw[hid]at HH HD tL Qa HHg PQ ⊢;rw[yW]at k1 HH HD tL Qa HHg PQ ⊢;obtain⟨c0,c1,c2,c3,c4,t0,e0,e1,e2,e3,e4,f0,f1,f2,f3,f4⟩:=tL;have nS:(s1.toList==s1.toList)=true:=by simp
 have HS:=aq Qa;clear Qa;have k0a:∀o,(w.alloc o).cell? ⟨bd,0,none⟩=some (.string ⟨#[100]⟩):=fun o=>Lib.cell?_alloc_some o k0
 have k1a:∀o,(w.alloc o).cell? ⟨bd,1,none⟩=some (.int .i64 up):=fun o=>Lib.cell?_alloc_some o k1
 have HW2:Hid ((w.alloc (.cells #[.int .i64 0,.int .i64 0,.int .i64 0,.int .i64 0,.string ⟨#[]⟩] 52)).alloc (.cells #[.int .i64 id,.int .i64 1,.int .i64 up,.int .i64 1,.string ⟨#[]⟩] 52)=w2):=PQ;clear PQ q0 q1 q2 q3 q4 Zq h h1 h2 hz ju hd hh rV uw zy ht A8 hid yW;go_enter func82,ntmps82;go_wp2_with fail;rw[an HW2]
 go_region_with (((first|(go_at_call 44;refine(an HT _).mono ?_)|(go_at_call 123;refine(an HHg _ (by first|exact hy|exact HD)).mono ?_));rintro e wy ⟨rfl,hb⟩;obtain⟨hy,b0,b1,b2,b3,b4,t2,g0,g1,g2,g3,g4,h0,h1,h2,h3,h4⟩:=an HS _ _ hb (by first|exact hy|exact HD);clear hb))
 all_goals
  go_wp2_with fail
  refine bodyPost_ret (qi (p:=6) (u:=7) rfl _ _ B _ _ _ _ _ rfl rfl (QX (Nat.le_of_eq hB) hy _ _ _ _ _).1) rfl ?_;exact⟨rfl,(QX (Nat.le_of_eq hB) hy _ _ _ _ _).2⟩
end
section
variable {w0 w w':World} {db nb eb:Nat} {D:List DN} {E:List DE} {ar:Int} {l:List aI} {A:List (Int×aG)}
theorem Ij {w9:World} {B:Nat} {z0 z1 z2 z3 z4:Value} (h:Hid (Gk w0 w9 w (eh db nb eb (mark A D) E ar (.cell B 52 [z0,z1,z2,z3,z4]::l)))) {d:DN} (hd:d∈D):w.cell? ⟨d.iA,2,none⟩=some (.string d.tail)/\w.cell? ⟨d.iA,3,none⟩=some (.int .i64 (b9 A d.id)):=by
 have h1:=sj (an h).1 hd;exact⟨h1.2.2.1,h1.2.2.2.1⟩
theorem QV {w9:World} {rs:List aI} (hb:Below w.heap.size w w') (h:Hid (Gk w0 w9 w rs)):Hid (Gk w0 w9 w' rs):=⟨H0.step (an h).1 hb,(an h).2.trans (hb.mono (an h).2.size)⟩
theorem N8 (h:H0 w0 w (eh db nb eb (mark A D) E ar l)) (d:DN) (hd:d∈D) (zy:d.aA=⟨#[102]⟩) (yW:d.up=0) (aL:ByteArray) (Ro:aL.size<=20) (uw:d.tail=bJ (b9 A d.id)++aL) (lu:1<=b9 A d.id) (kC:b9 A d.id<100):
 Calls prog 82 #[.pointer (some ⟨db,0,none⟩),.int .i64 d.id,.pointer (some ⟨d.iA,0,none⟩)] w fun e w'=>e=.returned (.tuple #[.agg #[.int .i64 d.id,.int .i64 2,.int .i64 0,.int .i64 (b9 A d.id),.string aL],.bool true])/\H0 w0 w' (eh db nb eb (mark A D) E ar l)/\Below w.heap.size w w':=by
 have ht:=fun wx=>jl (b9 A d.id) kC wx
 have hcut:=fun wx=>FB (bJ (b9 A d.id)) aL wx
 rw[<-uw]at hcut;obtain⟨B,hB⟩:=aa w.heap.size;have h1:=jF (aw.aY h (H0.below h).size 52 [.int .i64 0,.int .i64 0,.int .i64 0,.int .i64 0,.string ⟨#[]⟩]);rw[hB]at h1;obtain⟨w1,iD⟩:=aa (w.alloc (.cells [.int .i64 0,.int .i64 0,.int .i64 0,.int .i64 0,.string ⟨#[]⟩].toArray 52));rw[iD]at h1;have KH:w.alloc (.cells #[.int .i64 0,.int .i64 0,.int .i64 0,.int .i64 0,.string ⟨#[]⟩] 52)=w1:=iD
 have mg:Below w.heap.size w w1:=by rw[<-iD];exact(Below.refl _ w).alloc (Nat.le_refl _) _
 have H1:Hid (Gk w0 w w1 (eh db nb eb (mark A D) E ar (.cell B 52 [.int .i64 0,.int .i64 0,.int .i64 0,.int .i64 0,.string ⟨#[]⟩]::l))):=⟨h1,mg⟩;have HD:Hid (Gk w0 w w1.drew (eh db nb eb (mark A D) E ar (.cell B 52 [.int .i64 0,.int .i64 0,.int .i64 0,.int .i64 0,.string ⟨#[]⟩]::l))):=⟨aw.drew h1,mg.drew⟩;have k0:=(sj h1 hd).1;rw[zy]at k0;obtain⟨t0,n0⟩:=Ij H1 hd;have HS:Hid (∀(wx wy:World),Below wx.heap.size wx wy->Hid (Gk w0 w wx (eh db nb eb (mark A D) E ar (.cell B 52 [.int .i64 0,.int .i64 0,.int .i64 0,.int .i64 0,.string ⟨#[]⟩]::l)))->Hid (Gk w0 w wy (eh db nb eb (mark A D) E ar (.cell B 52 [.int .i64 0,.int .i64 0,.int .i64 0,.int .i64 0,.string ⟨#[]⟩]::l)))/\wy.cell? ⟨d.iA,2,none⟩=some (.string d.tail)/\wy.cell? ⟨d.iA,3,none⟩=some (.int .i64 (b9 A d.id))):=fun wx wy hb hx=>⟨QV hb hx,Ij (QV hb hx) hd⟩
 have HE:Hid (∀(wx:World),Hid (Gk w0 w wx (eh db nb eb (mark A D) E ar (.cell B 52 [.int .i64 0,.int .i64 0,.int .i64 0,.int .i64 0,.string ⟨#[]⟩]::l)))->wx.cell? ⟨d.iA,3,none⟩=some (.int .i64 (b9 A d.id))/\Hid (Gk w0 w (wx.alloc (.cells #[.int .i64 d.id,.int .i64 2,.int .i64 0,.int .i64 (b9 A d.id),.string aL] 52)) (JS db nb eb A D E ar l B wx.heap.size (.int .i64 d.id) (.int .i64 2) (.int .i64 0) (.int .i64 (b9 A d.id)) (.string aL) (.int .i64 0) (.int .i64 0) (.int .i64 0) (.int .i64 0) (.string ⟨#[]⟩)))):=fun wx hx=>⟨(sj (an hx).1 hd).2.2.2.1,jF (aw.aY (an hx).1 (H0.below (an hx).1).size 52 [.int .i64 d.id,.int .i64 2,.int .i64 0,.int .i64 (b9 A d.id),.string aL]),(an hx).2.alloc (an hx).2.size _⟩
 have HF:Hid (∀(wx:World) (C:Nat),Hid (Gk w0 w wx (JS db nb eb A D E ar l B C (.int .i64 d.id) (.int .i64 2) (.int .i64 0) (.int .i64 (b9 A d.id)) (.string aL) (.int .i64 0) (.int .i64 0) (.int .i64 0) (.int .i64 0) (.string ⟨#[]⟩)))->wx.cell? ⟨d.iA,3,none⟩=some (.int .i64 (b9 A d.id))/\wx.cell? ⟨d.iA,1,none⟩=some (.int .i64 0)/\_):=fun wx C hx=>⟨(sj (an hx).1 hd).2.2.2.1,by have:=(sj (an hx).1 hd).2.1;rw[yW]at this;exact this,Ev hx hd⟩
 obtain⟨rf,XT⟩:=aa (b9 A d.id);obtain⟨st,gz⟩:=aa (bJ (b9 A d.id));obtain⟨tl,Cy⟩:=aa d.tail;obtain⟨bd,A8⟩:=aa d.iA;obtain⟨id,hid⟩:=aa d.id;rw[gz]at ht hcut;rw[Cy]at hcut t0 HS HF;rw[XT]at ht n0 HS HE HF lu kC ⊢;rw[A8]at k0 t0 n0 HS HE HF ⊢;rw[hid]at HE HF ⊢;have HT:=aq ht;have HC:=aq hcut;have fE:(0:Int)<(rf:Int):=by omega
 have fD:(aL.size:Int)<=20:=by omega
 have Rj:0<rf:=by omega
 have hz4:aL.size<=20:=Ro;clear h h1 hd ht hcut iD gz uw Cy A8 hid XT zy yW lu kC Ro;go_enter func82,ntmps82;go_wp2_with fail
 go_region_with (((first|(go_at_call 44;refine(an HT _).mono ?_;rintro e wy ⟨rfl,hb⟩;obtain⟨hy,t2,n2⟩:=an HS _ _ hb (by first|exact hy|exact HD);clear hb)|(go_at_call 77;refine(an HC _).mono ?_;rintro e wz ⟨rfl,Cx⟩;have Cx:=Cx.symm;subst Cx))))
 all_goals
  obtain⟨n5,h5⟩:=an HE _ hy;obtain⟨n6,u6,tL⟩:=an HF _ _ h5;obtain⟨c0,c1,c2,c3,c4,_,e0,e1,e2,e3,e4,f0,f1,f2,f3,f4⟩:=tL;have H5:=aq h5;clear HE HF HS HT HC;go_wp2_with fail;generalize wy.alloc (.cells #[.int .i64 id,.int .i64 2,.int .i64 0,.int .i64 rf,.string aL] 52)=w7 at *
  go_region
  all_goals
   go_wp2_with fail
   have hz:=QX (Nat.le_of_eq hB) H5 (.int .i64 id) (.int .i64 2) (.int .i64 0) (.int .i64 rf) (.string aL);refine bodyPost_ret (qi (p:=6) (u:=7) rfl _ _ B _ _ _ _ _ rfl rfl hz.1) rfl ?_;exact⟨rfl,aw.drew hz.2.1,hz.2.2.drew⟩
end
section
variable {N M:List NV} {F:aC} {ar:Int} {A A2:List (Int×aG)} {D:List DN} {E:List DE}
def bare (v:NV):NV:=⟨v.id,v.aA,v.up,v.aB,v.aL,none⟩
structure cA (N:List NV) (F:aC) (ar:Int) (A:List (Int×aG)) (M:List NV) (D:List DN) (E:List DE):Prop where
 whole:Whole N F ar
 rows:jx N F ar
 read:vY A M D E
 nodes:M.Perm N
 prs:A.Perm (b7 N F)
 ix:A.length<=1000
theorem cA.DM (h:cA N F ar A M D E) {d:DN} (hd:d∈D):∃v∈N,v.id=d.id/\d.aA=⟨#[if v.aA=1 then 100 else 102]⟩/\d.up=v.up/\d.tail=bJ v.aB.toNat++v.aL:=by
 have h1:(d.id,d.aA,d.up,d.tail)∈D.map (fun d=>(d.id,d.aA,d.up,d.tail)):=mem_map.2 ⟨d,hd,rfl⟩;rw[h.read.dn]at h1;obtain⟨v,hv,e⟩:=mem_map.1 h1;simp only[Prod.mk.injEq]at e;exact⟨v,h.nodes.mem_iff.1 hv,e.1,e.2.1.symm,e.2.2.1.symm,e.2.2.2.symm⟩
theorem cA.Mg (h:cA N F ar A M D E) {v:NV} (hv:v∈N):∃d∈D,d.id=v.id/\d.aA=⟨#[if v.aA=1 then 100 else 102]⟩/\d.up=v.up/\d.tail=bJ v.aB.toNat++v.aL:=by
 have h1:(v.id,(⟨#[if v.aA=1 then 100 else 102]⟩:ByteArray),v.up,bJ v.aB.toNat++v.aL)∈M.map (fun v=>(v.id,(⟨#[if v.aA=1 then 100 else 102]⟩:ByteArray),v.up,bJ v.aB.toNat++v.aL)):=mem_map.2 ⟨v,h.nodes.mem_iff.2 hv,rfl⟩;rw[<-h.read.dn]at h1;obtain⟨d,hd,e⟩:=mem_map.1 h1;simp only[Prod.mk.injEq]at e;exact⟨d,hd,e.1,e.2.1,e.2.2.1,e.2.2.2⟩
theorem cA.ids (h:cA N F ar A M D E):D.map DN.id=M.map NV.id:=by
 have:=congrArg (List.map Prod.fst) h.read.dn
 simpa[Function.comp_def]using this
theorem cA.nodup (h:cA N F ar A M D E):(D.map DN.id).Nodup:=by
 rw[h.ids];exact(h.nodes.map NV.id).nodup_iff.2 h.rows.nodup
theorem cA.length (h:cA N F ar A M D E):D.length=N.length:=by
 have:=congrArg List.length h.ids;simp only[length_map]at this;rw[this,h.nodes.length_eq]
theorem cA.wf (h:cA N F ar A M D E) {d:DN} (hd:d∈D):kg d.id/\1<=d.id/\d.id<ar:=by
 obtain⟨v,hv,e,_⟩:=h.DM hd;have h1:=h.whole.ids v hv;have h2:=h.rows.ids v hv;rw[<-e];exact⟨il (by omega) (by omega),h1.1,h1.2⟩
theorem O4 {i:Int} {x:aG} (h:x∈jf i A):(i,x)∈A:=by
 unfold jf at h;obtain⟨p,hp,e⟩:=List.mem_filterMap.1 h
 split at e
 ·rename_i h1
  cases e
  rw[<-h1];exact hp
 ·cases e
theorem cA.item (h:cA N F ar A M D E) {e:DE} (he:e∈E) {x:aG} (hx:x∈e.items):(e.aP,x)∈b7 N F/\∃u∈N,u.id=e.aP/\u.aA=1/\x∈bo F u:=by
 have h1:(e.aP,x)∈b7 N F:=h.prs.mem_iff.1 (O4 (by rw[<-(h.read.ei e he).1];exact hx));refine⟨h1,?_⟩;obtain⟨u,hu,h2⟩:=List.mem_flatMap.1 h1;obtain⟨y,hy,e2⟩:=mem_map.1 h2;injection e2 with e2 e3;subst e3;refine⟨u,hu,e2,?_,hy⟩;unfold bo at hy
 split at hy
 ·assumption
 ·cases hy
theorem cA.aP (h:cA N F ar A M D E) {e:DE} (he:e∈E):kg e.aP/\∃d∈D,d.id=e.aP/\d.aA=⟨#[100]⟩:=by
 obtain⟨x,hx⟩:=exists_mem_of_ne_nil _ (h.read.ei e he).2;obtain⟨_,u,hu,hui,Mm,_⟩:=h.item he hx;obtain⟨d,hd,hdi,hdk,_⟩:=h.Mg hu;refine⟨?_,d,hd,by rw[hdi,hui],by rw[hdk,Mm];rfl⟩;rw[<-hui,<-hdi];exact(h.wf hd).1
theorem cA.items (h:cA N F ar A M D E) {e:DE} (he:e∈E):e.items.length<=1000/\(∀x∈e.items,x.az=dP x.name/\aR x.name=none)/\∀x∈e.items,x.aN≠1/\∃d∈D,d.id=x.aN:=by
 refine⟨?_,fun x hx=>?_,fun x hx=>?_⟩
 ·rw[(h.read.ei e he).1];have:=length_filterMap_le (fun p:Int×aG=>if p.1=e.aP then some p.2 else none) A;have:=h.ix;unfold jf;omega
 ·obtain⟨_,u,hu,_,_,hxu⟩:=h.item he hx;have:=h.rows.gA u hu x hxu;exact⟨this.1,this.2.1⟩
 ·obtain⟨h1,v,hv,e1⟩:=h.whole.linked.named _ (h.item he hx).1;obtain⟨d,hd,hdi,_⟩:=h.Mg hv;exact⟨h1,d,hd,by rw[hdi,e1]⟩
theorem yA:∀{N:List NV},(N.map NV.id).Nodup->∀{v:NV},v∈N->jf v.id (b7 N F)=bo F v
 |u::N,hn,v,hv=>by
  rw[map_cons,nodup_cons]at hn
  have e0:∀(i j:Int) (L:List aG),jf i (jm j L)=if j=i then L else []:=fun i j L=>by
   induction L with
   |nil=>by_cases h:j=i<;>simp[jf,jm,h]
   |cons x L ih=>
    unfold jf jm at ih ⊢;rw[map_cons,filterMap_cons]
    by_cases h:j=i
    ·simp only[h,if_true]at ih ⊢;rw[ih]
    ·simp only[h,if_false]at ih ⊢;exact ih
  have e1:jf v.id (b7 (u::N) F)=jf v.id (jm u.id (bo F u))++jf v.id (b7 N F):=by rw[iw];unfold jf;rw[filterMap_append]
  rw[e1,e0]
  rcases mem_cons.1 hv with rfl|hv
  ·rw[if_pos rfl]
   have:jf v.id (b7 N F)=[]:=by
    unfold jf;rw[filterMap_eq_nil_iff];intro p hp;rw[if_neg];intro e2;obtain⟨w,hw,JW⟩:=List.mem_flatMap.1 hp;obtain⟨y,_,e3⟩:=mem_map.1 JW;have:w.id=v.id:=by rw[<-e2,<-e3]
    exact hn.1 (by rw[<-this];exact mem_map.2 ⟨w,hw,rfl⟩)
   rw[this,append_nil]
  ·rw[if_neg fun e2=>hn.1 (by rw[e2];exact mem_map.2 ⟨v,hv,rfl⟩),nil_append];exact yA hn.2 hv
theorem cA.built (h:cA N F ar A M D E) {v:NV} (hv:v∈N):eE (dz E v.id)=bo F v:=by
 have hp:(jf v.id A).Perm (bo F v):=by rw[<-yA (F:=F) h.rows.nodup hv];exact h.prs.filterMap _
 have hi:dz E v.id=jf v.id A:=by
  unfold dz
  cases hf:E.find? (fun e=>e.aP==v.id)with
  |none=>simp only;symm;unfold jf;rw[filterMap_eq_nil_iff];intro p hp;rw[if_neg];intro e2;obtain⟨e,he,U7⟩:=h.read.ex p hp;have:=find?_eq_none.1 hf e he;exact this (by rw[U7,e2];simp)
  |some e=>
   simp only;have h1:=mem_of_find?_eq_some hf;have h2:e.aP=v.id:=by have:=find?_some hf;simpa using this
   rw[(h.read.ei e h1).1,h2]
 rw[hi];exact NO hp (h.rows.sorted v hv)
theorem Iu {i:Int}:∀(n:Nat) (A:List (Int×aG)),A.length=n->(∃p∈A,p.2.aN=i)->∃p∈A,p.2.aN=i/\jH A i=p.1:=by
 intro n
 induction n with
 |zero=>intro A hl ⟨p,hp,_⟩;rw[eq_nil_of_length_eq_zero hl]at hp;cases hp
 |succ n ih=>
  intro A hl hx;have dr:A≠[]:=fun e=>by rw[e]at hl;simp at hl
  have mS:=dropLast_concat_getLast dr;generalize A.dropLast=A0 at mS;generalize A.getLast dr=q at mS;subst mS;have A5:A0.length=n:=by simpa using hl
  rw[qt]
  by_cases hq:q.2.aN=i
  ·rw[if_pos hq];exact⟨q,by simp,hq,rfl⟩
  ·rw[if_neg hq];obtain⟨p,hp,hpi⟩:=hx
   have XW:p∈A0:=by
    rcases mem_append.1 hp with hp|hp
    ·exact hp
    ·rw[mem_singleton.1 hp]at hpi;exact absurd hpi hq
   obtain⟨r,hr,h1,h2⟩:=ih A0 A5 ⟨p,XW,hpi⟩;exact⟨r,mem_append_left _ hr,h1,h2⟩
theorem cA.marked (h:cA N F ar A M D E) (OL:A2.Perm (cG E)) {v:NV} (hv:v∈N) (h1:v.id≠1):(b9 A2 v.id:Int)=v.aB/\1<=v.aB/\(v.aA=1->b9 A2 v.id=1/\jH A2 v.id=v.up):=by
 have hp:A2.Perm (T.b7 N F):=OL.trans (h.read.pr.trans h.prs);have hc:=h.whole.linked.pY v hv h1;have hr:b9 A2 v.id=b9 (T.b7 N F) v.id:=NX hp _;rw[hr];refine⟨hc.1,hc.2,fun hk=>?_⟩
 have hl:v.aB=1:=by
  rcases h.whole.linked.kinds v hv with e|e
  ·exact e.2.1
  ·rw[e.1]at hk;exact absurd hk (by decide)
 have oM:b9 (T.b7 N F) v.id=1:=by have:=hc.1;omega
 refine⟨oM,?_⟩;obtain⟨it,hit,gY⟩:=h.whole.linked.ups v hv hk h1;obtain⟨p,JW,hpn,CA⟩:=Iu _ A2 rfl ⟨(v.up,it),hp.mem_iff.2 hit,gY⟩;have:=GX oM (hp.mem_iff.1 JW) hit hpn gY;rw[CA,this]
theorem cA.abh (h:cA N F ar A M D E) (OL:A2.Perm (cG E)) {v:NV} (hv:v∈N) (hk:v.aA=1):∃k,k<D.length/\pB (jH A2) k v.id=1/\∀j,j<k->pB (jH A2) j v.id≠1/\∃d∈D,d.id=pB (jH A2) j v.id/\kg d.id/\b9 A2 d.id=1/\jH A2 d.id=d.up:=by
 have WB:=h.whole.linked.Ba v hv hk;obtain⟨k,ji,ll,hk3⟩:=h.whole.linked.short WB;obtain⟨d0,_,mz⟩:=h.whole.linked.way WB
 have aal:∀j,j<=k->∃u∈N,u.id=ti N j v.id/\u.aA=1:=fun j hj=>by
  by_cases hjd:j<=d0
  ·obtain⟨h1,h2⟩:=mz j hjd;obtain⟨u,hu,e⟩:=mem_map.1 h1;refine⟨u,hu,e,?_⟩;rw[<-e,gB h.rows.nodup hu]at h2;exact h2
  ·obtain⟨a1,a2,a3,a4⟩:=h.whole.linked.at1
   have:ti N d0 v.id=1:=by rename_i hd0;exact hd0
   have eO:d0<k:=by omega
   exact absurd this (hk3 d0 eO)
 have heq:∀j,j<=k->pB (jH A2) j v.id=ti N j v.id:=by
  intro j
  induction j with
  |zero=>intro _;rfl
  |succ j ih=>
   intro hj;rw[uv,ih (by omega)];obtain⟨u,hu,hui,Mm⟩:=aal j (by omega);have dr:=hk3 j (by omega);rw[<-hui]at dr ⊢;rw[((h.marked OL hu dr).2.2 Mm).2]
   have h2:ti N (j+1) v.id=(bW N (ti N j v.id)).up:=by rw[uU];rfl
   rw[h2,<-hui,gB h.rows.nodup hu]
 refine⟨k,by rw[h.length];exact ji,by rw[heq k (Nat.le_refl _)];exact ll,fun j hj=>?_⟩;rw[heq j (by omega)];refine⟨hk3 j hj,?_⟩;obtain⟨u,hu,hui,Mm⟩:=aal j (by omega);obtain⟨d,hd,hdi,_,U8,_⟩:=h.Mg hu;have dr:=hk3 j hj;rw[<-hui]at dr;have hm:=(h.marked OL hu dr).2.2 Mm;exact⟨d,hd,by rw[hdi,hui],(h.wf hd).1,by rw[hdi];exact hm.1,by rw[hdi,U8];exact hm.2⟩
end
open Go.Lib
theorem H0.fJ {w0 w:World} (h:H0 w0 w []):H0 w0 w [cL (.slice none 0 0) []]:=aw.fJ h 86 3
theorem H0.xD {w0 w:World} {rs:List aI} (h:H0 w0 w rs) (o:Obj):H0 w0 (w.alloc o) rs:=h.step ((Below.refl _ w).alloc (Nat.le_refl _) o)
theorem Ck {w:World} {b1 b2 n:Nat} {va vb:Value} {L:List CH} (ha:w.ownsRow b1 86 3 va n (gF L)) (hb:w.ownsRow b2 86 3 vb n (gF L)) (hn:L.length=n) (hm:n<=200000):
 Calls prog 42 #[va,vb] w fun e w'=>e=.returned (.bool true)/\Below w.heap.size w w':=by
 obtain⟨pa,ca,rfl⟩:=jV ha;obtain⟨pb,cb,rfl⟩:=jV hb;have HN:=aq hn;have HR:Hid (w.ownsRow b1 86 3 (.slice pa n ca) n (gF L)/\w.ownsRow b2 86 3 (.slice pb n cb) n (gF L)/\Below w.heap.size w w):=⟨ha,hb,Below.refl _ _⟩;clear ha hb hn;go_enter func42,ntmps42;go_wp2_with fail
 go_loopg [13] (n+1) (fun k vi wr=>∃j:Nat,n-j<k/\j<=n/\vi=.int .i64 j/\Hid (wr.ownsRow b1 86 3 (.slice pa n ca) n (gF L)/\wr.ownsRow b2 86 3 (.slice pb n cb) n (gF L)/\Below w.heap.size w wr))
 case atStart=>exact⟨0,by omega,by omega,rfl,HR⟩
 case round=>
  obtain⟨j,hk,hj,rfl,HI⟩:=hrel;clear HR
  by_cases PX:j<n
  ·have MB:(j:Int)<(n:Int):=by omega
   have Gg:j<L.length:=by rw[an HN];exact PX
   obtain⟨x,hx⟩:∃x,L[j]? = some x:=⟨L[j]'Gg,by simp[Gg]⟩;obtain⟨g1,cap1,e1,_⟩:=aZ (an HI).1 (by omega);injection e1 with e1 _ e2;subst e1 e2;obtain⟨g2,cap2,e3,_⟩:=aZ (an HI).2.1 (by omega);injection e3 with e3 _ e4;subst e3 e4;obtain⟨x0,x1,x2⟩:=vS (an HI).1 hx;obtain⟨y0,y1,y2⟩:=vS (an HI).2.1 hx;clear hx Gg;go_wp2_with fail
   go_region
   all_goals
    go_wp2_with fail
    go_roundg (n-j)
    case measure=>omega
    case rel=>exact⟨j+1,by omega,by omega,by simp,(an HI).1,(an HI).2.1,(an HI).2.2.drew⟩
  ·have MB:¬(j:Int)<(n:Int):=by omega
   go_wp2_with fail
   go_ret;exact⟨rfl,(an HI).2.2⟩
section
section
variable {N M:List NV} {F F':aC} {ar:Int} {A A2:List (Int×aG)} {D:List DN} {E:List DE} {w0 w:World} {db nb eb:Nat}
theorem cA.Xz (h:cA N F ar A M D E) (OL:A2.Perm (cG E)):Tj w0 db nb eb A2 D E ar (fun d=>bare (bW N d.id)):=by
 intro d hd;obtain⟨v,hv,hvi,hdk,U8,hdt⟩:=h.DM hd;have iV:bW N d.id=v:=by rw[<-hvi];exact gB h.rows.nodup hv
 simp only;rw[iV];refine⟨hvi,fun wx lx hx=>?_⟩;have hDl:D.length<=1000:=by have:=h.length;have:=h.rows.fits.ix;omega
 rcases h.whole.linked.kinds v hv with⟨hk,hl,ht⟩|⟨hk,hu,ht⟩
 ·have uw:d.tail=bJ 1:=by
   rw[hdt,hl,ht];exact kz (by simp)
  obtain⟨k,ji,ll,hk3⟩:=h.abh OL hv hk;rw[hvi]at ll hk3;have:=Ip hx d hd (by rw[hdk,hk];rfl) uw fun wy ly hy=>I3 hy h.nodup hDl d.id k ji ll hk3
  refine this.mono fun e w' ⟨he,h2,h3⟩=>⟨?_,h2,h3⟩
  rw[he];unfold bare;simp only;rw[hvi,hk,hl,ht,U8]
 ·have h1:v.id≠1:=fun e=>by
   obtain⟨r,hr,lu,kC,_⟩:=h.whole.linked.root;have:v=r:=ja h.rows.nodup hv hr (by rw[e,lu]);rw[this,kC]at hk;exact absurd hk (by decide)
  have hm:=h.marked OL hv h1;have lj:=h.rows.aB v hv;rw[hvi]at hm;have PT:b9 A2 d.id=v.aB.toNat:=by have:=hm.1;omega
  have:=N8 hx d hd (by rw[hdk,hk];rfl) (by rw[U8,hu]) v.aL ht (by rw[hdt,PT]) (by omega) (by omega);refine this.mono fun e w' ⟨he,h2,h3⟩=>⟨?_,h2,h3⟩
  rw[he];unfold bare;simp only;rw[hvi,hk,hu,hm.1]
theorem Qw {α:Type} {a b:List α} {x y:α} (h:a++[x]=b++[y]):a=b/\x=y:=by
 have h1:=congrArg List.length h;simp only[length_append,length_cons,length_nil]at h1;obtain⟨h2,h3⟩:=append_inj h (by omega);exact⟨h2,by injection h3⟩
theorem cA.twins (h:cA N F ar A M D E) {L N':List NV} (hb:jT E F' L N'):∀(Fd:List DN),L=Fd.map (fun d=>bare (bW N d.id))->(∀d∈Fd,d∈D)->Twins F F' (Fd.map fun d=>bW N d.id) N':=by
 induction hb with
 |nil=>
  intro Fd e _;have:Fd=[]:=by cases Fd with|nil=>rfl|cons x Fd=>simp at e
  subst this;exact .nil
 | @snoc X Y u v hb h1 fr ih=>
  intro Fd e T7;have dr:Fd≠[]:=fun e2=>by rw[e2]at e;simp at e
  have mS:=dropLast_concat_getLast dr;generalize Fd.dropLast=F0 at mS;generalize Fd.getLast dr=d at mS;subst mS;rw[map_append,map_cons,map_nil]at e;obtain⟨e1,e2⟩:=Qw e;rw[map_append,map_cons,map_nil];have hd:=T7 d (by simp);obtain⟨x,hx,hxi,_⟩:=h.DM hd;have iV:bW N d.id=x:=by rw[<-hxi];exact gB h.rows.nodup hx
  rw[iV]at e2 ⊢;subst e2;refine .snoc (ih F0 e1 fun z hz=>T7 z (mem_append_left _ hz)) ⟨h1.id,h1.aA,h1.up,h1.aB,h1.aL,?_,h1.tree⟩ fr;rw[h1.gA];unfold zB
  show(if x.aA=1 then eE (dz E x.id)else [])=_
  by_cases hk:x.aA=1
  ·rw[if_pos hk,h.built hx]
  ·rw[if_neg hk,Bs hk]
theorem cA.perm (h:cA N F ar A M D E) {Fd:List DN} (hp:Fd.Perm D):(Fd.map fun d=>bW N d.id).Perm N:=by
 have h1:D.map (fun d=>bW N d.id)=M:=by
  have:D.map (fun d=>bW N d.id)=(D.map DN.id).map (bW N):=by rw[map_map];rfl
  rw[this,h.ids,map_map]
  conv=>rhs;rw[<-map_id M]
  refine map_congr_left fun v hv=>?_
  exact gB h.rows.nodup (h.nodes.mem_iff.1 hv)
 exact(hp.map _).trans (by rw[h1];exact h.nodes)
theorem cA.drawn (h:cA N F ar A M D E) {Fd:List DN} (T7:∀d∈Fd,d∈D) (hd:∀x∈F',∃u∈Fd.map (fun d=>bare (bW N d.id)),u.aA=1/\x.2=eE (dz E u.id)):wj F F':=by
 intro x hx;obtain⟨u,hu,hk,e⟩:=hd x hx;obtain⟨d,hdm,rfl⟩:=mem_map.1 hu;obtain⟨v,hv,hvi,_⟩:=h.DM (T7 d hdm);have iV:bW N d.id=v:=by rw[<-hvi];exact gB h.rows.nodup hv
 rw[iV]at hk e;obtain⟨tb,jh,ht⟩:=h.whole.tree v hv hk;refine⟨tb,ht,?_⟩;rw[e]
 show eE (dz E v.id)=_;have ll:v.aA=1:=hk;rw[h.built hv,iy ll jh]
end
variable {w0 w:World} {N:List NV} {F:aC} {ar:Int} {l0:List aI}
theorem SG (h:H0 w0 w l0):H0 w0 (((w.alloc (.map #[] 0)).alloc (.map #[] 0)).alloc (.cells #[.map (some w.heap.size),.map (some (w.heap.size+1)),.int .i64 0] 84)) (eh (w.heap.size+1+1) w.heap.size (w.heap.size+1) [] [] 0 l0):=by
 have hb:=(H0.below h).size;have h1:=P.rP h hb;have h2:=P.rP h1 (by rw[World.size_alloc];omega);have h3:=aw.aY h2 (by rw[World.size_alloc,World.size_alloc];omega) 84 [.map (some w.heap.size),.map (some (w.heap.size+1)),.int .i64 0];simp only[World.size_alloc]at h3;refine H0.perm h3 ?_
 show(.cell _ _ _::.obj w.heap.size _::.obj (w.heap.size+1) _::l0:List aI).Perm (.cell _ _ _::.obj (w.heap.size+1) _::.obj w.heap.size _::l0);exact List.Perm.cons _ (List.Perm.swap _ _ _)
end
section
variable {w0 w:World} {N:List NV} {F:aC} {ar:Int} {l0:List aI}
def BS (w0 w:World) (db nb eb:Nat) (ar:Int) (l0:List aI) (T:List Tag):Prop:=∃D E nx,vY (lF T) (jI T) D E/\(Tag.nx∈T->nx=ar)/\H0 w0 w (eh db nb eb D E nx l0)
theorem rL (T:List Tag) (t:Tag):jI (T++[t])=jI T++(match t.aN with|some v=>[v]|none=>[]):=by
 unfold jI;rw[filterMap_append]
 congr 1
 cases t<;>rfl
theorem rI (T:List Tag) (t:Tag):lF (T++[t])=lF T++(match t.pair with|some v=>[v]|none=>[]):=by
 unfold lF;rw[filterMap_append]
 congr 1
 cases t<;>rfl
theorem QJ {A:List (Int×aG)} {M:List NV} {D:List DN} {E:List DE} (h:vY A M D E):D.map DN.id=M.map NV.id:=by
 have:=congrArg (List.map Prod.fst) h.dn
 simpa[Function.comp_def]using this
theorem QI (hR:bF w0) (hO:jx N F ar) {db nb eb:Nat} {T T2:List Tag} {t:Tag} (hT:(T++t::T2).Perm (qK N F)) (hl:T.length<=1000) (h:BS w0 w db nb eb ar l0 T):
 Calls prog 38 #[.pointer (some ⟨db,0,none⟩),.agg #[.string (t.row ar).az,.string (t.row ar).val,.bool (t.row ar).gone]] w fun e w'=>e=.returned (.bool true)/\BS w0 w' db nb eb ar l0 (T++[t]):=by
 obtain⟨D,E,nx,Ca,sU,hx⟩:=h;have uD:t∈qK N F:=hT.mem_iff.1 (by simp)
 have hnp:(jI (T++t::T2)).Perm N:=by have:=hT.filterMap Tag.aN;rw[show(qK N F).filterMap Tag.aN=N from Aa N F]at this;exact this
 have CA:(lF T).length<=T.length:=length_filterMap_le _ _;have AZ:(jI T).length<=T.length:=length_filterMap_le _ _
 have hDl:D.length<=1000:=by have:=congrArg List.length (QJ Ca);simp only[length_map]at this;omega
 have hEl:E.length<=1000:=by have:=Ca.len;omega
 have hIl:∀e∈E,e.items.length<=1000:=fun e he=>by rw[(Ca.ei e he).1];have:=length_filterMap_le (fun p:Int×aG=>if p.1=e.aP then some p.2 else none) (lF T);unfold jf;omega
 cases t with
 |nx=>have h1:=Au hx ar.toNat (by have:=hO.top;omega) false;rw[Int.toNat_of_nonneg hO.top.1]at h1;refine Calls.mono (show Calls prog 38 _ _ _ from h1) ?_;rintro e w' ⟨he,h2⟩;refine⟨he,D,E,ar,?_,fun _=>rfl,h2⟩;rw[rL,rI];show vY (lF T++[]) (jI T++[]) D E;rw[append_nil,append_nil];exact Ca
 |nd v=>
  have PR:v∈N:=by have h1:v∈jI (T++Tag.nd v::T2):=List.mem_filterMap.2 ⟨Tag.nd v,by simp,rfl⟩;exact hnp.mem_iff.1 h1
  have rZ:v.id∉D.map DN.id:=by
   rw[QJ Ca];have h1:=(hnp.map NV.id).nodup_iff.2 hO.nodup
   have e1:jI (T++Tag.nd v::T2)=jI T++v::jI T2:=by unfold jI;rw[filterMap_append,filterMap_cons];rfl
   rw[e1,map_append,map_cons,nodup_append]at h1;intro hm;exact h1.2.2 _ hm v.id (by simp) rfl
  have h1:=vg hx hDl v (hO.ids v PR) rZ (hO.ups v PR) (hO.aB v PR) (hO.aL v PR) false;refine Calls.mono (show Calls prog 38 _ _ _ from h1) ?_;rintro e w' ⟨he,iA,h2⟩;refine⟨he,_,E,nx,?_,fun hm=>?_,h2⟩
  ·rw[rL,rI]
   show vY (lF T++[]) (jI T++[v]) _ E;rw[append_nil];exact Ca.aN v iA
  ·rcases mem_append.1 hm with hm|hm
   ·exact sU hm
   ·simp at hm
 |en i x=>
  have hpx:(i,x)∈b7 N F:=by have h1:(i,x)∈lF (qK N F):=List.mem_filterMap.2 ⟨Tag.en i x,uD,rfl⟩;rw[z8]at h1;exact h1
  obtain⟨u,hu,hm⟩:=List.mem_flatMap.1 hpx;obtain⟨y,hy,e1⟩:=mem_map.1 hm;injection e1 with e1 e2;subst e2;have UM:=hO.gA u hu y hy;have hio:=hO.ids u hu;rw[e1]at hio;have h1:=uf hR hx Ca.ef hEl hIl i hio y UM.2.2 UM.2.1 false;refine Calls.mono (show Calls prog 38 _ _ _ from h1) ?_;rintro e w' ⟨he,E',hadd,h2⟩;refine⟨he,D,E',nx,?_,fun hm=>?_,h2⟩
  ·rw[rL,rI]
   show vY (lF T++[(i,y)]) (jI T++[]) D E';rw[append_nil];exact Ca.ent hadd
  ·rcases mem_append.1 hm with hm|hm
   ·exact sU hm
   ·simp at hm
end
section
variable {w0 w:World} {N:List NV} {F:aC} {ar:Int} {l0:List aI}
theorem MR {db nb eb:Nat} {D:List DN} {E:List DE} {nx:Int} {r:aI} (h:r∈l0):r∈eh db nb eb D E nx l0:=by
 unfold eh;simp only[mem_cons,mem_append];exact .inr (.inr (.inr (.inr (.inr h))))
def pS (w0:World) (N:List NV) (F:aC) (ar:Int) (l0:List aI) (e:Ending) (w':World):Prop:=
 ∃gb gm N' F' acc,e=.returned (.tuple #[.pointer (some ⟨gb,0,none⟩),.nilIface])/\acc.Perm N/\Twins F F' acc N'/\wj F F'/\aJ w0 w' gb gm N' F' ar l0
theorem Km {nx:Int} {A A2:List (Int×aG)} {M:List NV} {D Fd:List DN} {E:List DE} {R:List CH} {va v7:Value} {wx:World} {fb mb db nb eb:Nat} {N':List NV} {F':aC} (hR:bF w0) (hO:jx N F nx) (nL:cA N F nx A M D E) (hp:R.Perm (rowsOf F nx N)) (hs:R.Pairwise fun a b=>¬dR b.az a.az) (hm:cL va R∈l0) (Xd:Fd.Perm D)
 (hB:jT E F' (Fd.map fun d=>bare (bW N d.id)) N') (hD:∀x∈F',∃u∈Fd.map (fun d=>bare (bW N d.id)),u.aA=1/\x.2=eE (dz E u.id))
 (hx:aJ w0 wx fb mb N' F' nx (gL v7 (Fd.map fun d=>bare (bW N d.id))::eh db nb eb (mark A2 D) E nx l0)):
 Calls prog 19 #[.pointer (some ⟨fb,0,none⟩)] wx fun e w'=>∃p c,e=.returned (.slice p R.length c)/\Calls prog 42 #[.slice p R.length c,va] w' fun e F9=>e=.returned (.bool true)/\∃N' F' acc,acc.Perm N/\Twins F F' acc N'/\wj F F'/\aJ w0 F9 fb mb N' F' nx l0:=by
 have M9:∀d∈Fd,d∈D:=fun d hd=>Xd.mem_iff.1 hd
 have ht:=nL.twins hB Fd rfl M9;have Cb:=nL.perm Xd;have hdr:=nL.drawn M9 hD;have Zp:=hO.copy Cb ht hdr
 have Rk:aJ w0 wx fb mb N' F' nx l0:=hx.conv (fun x=>by
  unfold eh;simp only[ax,ay];omega) (fun hs r hr=>hs r (.tail _ (MR hr)))
 refine(lC hR Rk Zp).mono ?_;rintro e w' ⟨v2,R2,rfl,p2,s2,h3⟩;have p3:R2.Perm R:=p2.trans ((by rw[qa ht];exact kj Cb:(rowsOf F' nx N').Perm (rowsOf F nx N)).trans hp.symm);have e:R2=R:=xT p3 s2 hs ((p2.map CH.az).nodup_iff.2 Zp.keys);subst e;have o1:=h3.rowAt (v:=v2) (e:=86) (k:=3) ae;have o2:=h3.rowAt (e:=86) (k:=3) (.tail _ hm);obtain⟨p,c,rfl⟩:=jV o1;have hl:R2.length<=1000:=by rw[hp.length_eq];exact hO.aF
 refine⟨p,c,rfl,(Ck o1 o2 rfl (by omega)).mono ?_⟩;rintro e F9 ⟨rfl,hb⟩;exact⟨rfl,N',F',_,Cb,ht,hdr,(aJ.aD [] h3).step (hb.mono (by exact Nat.le_refl _))⟩
theorem l8 (hR:bF w0) (hW:Whole N F ar) (hO:jx N F ar) (h:H0 w0 w l0) {va:Value} {R:List CH} (hm:cL va R∈l0) (hp:R.Perm (rowsOf F ar N)) (hs:R.Pairwise fun a b=>¬dR b.az a.az):
 Calls prog 18 #[va] w fun e w'=>pS w0 N F ar l0 e w':=by
 obtain⟨T,hT,hRT⟩:=NQ hp (qK N F) (No N F ar).symm;have J2:R.length<=1000:=by rw[hp.length_eq];exact hO.aF
 have hTl:T.length=R.length:=by rw[hRT,length_map]
 have hR0:0<R.length:=by rw[hp.length_eq];simp[rowsOf]
 have ym:w.ownsRow w0.heap.size 86 3 va R.length (gF R):=aw.sat h (cL va R) hm;obtain⟨g,aU,rfl,_⟩:=aZ ym hR0;have h1:=SG h;obtain⟨nb,Gd⟩:=aa w.heap.size;rw[Gd]at h1;obtain⟨w1,iD⟩:=aa (((w.alloc (.map #[] 0)).alloc (.map #[] 0)).alloc (.cells #[.map (some nb),.map (some (nb+1)),.int .i64 0] 84));rw[iD]at h1;have qZ:=@run_makeMap prog;obtain⟨n,hn⟩:=aa R.length;have H1:Hid (BS w0 w1 (nb+1+1) nb (nb+1) ar l0 (T.take 0)):=⟨[],[],0,.start,by simp,h1⟩;have HR:=aq hR
 have HW:=aq hW;have HO:=aq hO;have Hm:=aq hm;have Hp:=aq hp;have Hs:=aq hs;have HT:=aq hT;have HRT:=aq hRT;have Hn:=aq hn;have YU:Hid (T.length=n):=by rw[<-hn];exact hTl
 rw[hn]at J2 ⊢;have hw1c:=iD;clear h h1 hR hW hO hm hp hs hT hRT ym hR0 hTl hn;go_enter func18,ntmps18;go_wp2_with fail
 go_loopg [16] (n+1) (fun k vi wr=>∃i:Nat,n-i<k/\i<=n/\vi=.int .i64 i/\Hid (BS w0 wr (nb+1+1) nb (nb+1) ar l0 (T.take i)))
 case atStart=>exact⟨0,by omega,by omega,rfl,H1⟩
 case round=>
  obtain⟨i,hg,hi,rfl,HI⟩:=hrel;clear H1
  by_cases gY:i<n
  ·have mI:(i:Int)<(n:Int):=by omega
   obtain⟨t,ht⟩:∃t,T[i]? = some t:=⟨T[i]'(by rw[an YU];exact gY),getElem?_eq_getElem _⟩;have hc:R[i]? = some (t.row ar):=by rw[an HRT,getElem?_map,ht];rfl
   obtain⟨D,E,nx,Ca,sU,hx⟩:=an HI;have dW:wr.ownsRow w0.heap.size 86 3 (.slice (some ⟨g,0,none⟩) R.length aU) R.length (gF R):=aw.sat hx (cL _ R) (MR (an Hm));rw[an Hn]at dW;obtain⟨c0,c1,c2⟩:=vS dW hc
   have uy:T.take i++t::T.drop (i+1)=T:=by obtain⟨hi2,e⟩:=List.getElem?_eq_some_iff.1 ht;rw[<-e,<-drop_eq_getElem_cons hi2,take_append_drop]
   have h2:BS w0 (wr.alloc (.cells #[.string (t.row ar).az,.string (t.row ar).val,.bool (t.row ar).gone] 86)) (nb+1+1) nb (nb+1) ar l0 (T.take i):=⟨D,E,nx,Ca,sU,H0.step hx ((Below.refl _ wr).alloc (Nat.le_refl _) _)⟩;have XU:=QI (an HR) (an HO) (T:=T.take i) (T2:=T.drop (i+1)) (t:=t) (by rw[uy];exact an HT) (by rw[length_take];omega) h2;rw[<-wI ht]at XU;have HRd:=aq XU;obtain⟨ck,wH⟩:=aa ((t.row ar).az);obtain⟨cv,RV⟩:=aa ((t.row ar).val);obtain⟨cg,Va⟩:=aa ((t.row ar).gone)
   rw[wH]at c0 HRd;rw[RV]at c1 HRd;rw[Va]at c2 HRd;clear ht hc Ca sU hx dW uy h2 XU HI wH RV Va;go_wp2_with fail;refine(an HRd).mono ?_;rintro e w3 ⟨rfl,h3⟩;have H3:=aq h3;clear h3 HRd c0 c1 c2;go_wp2_with fail
   go_roundg (n-i)
   case measure=>omega
   case rel=>exact⟨i+1,by omega,by omega,by simp,H3⟩
  ·have mI:¬(i:Int)<(n:Int):=by omega
   obtain⟨D,E,nx,Ca,sU,hx⟩:=an HI;rw[take_of_length_le (by rw[an YU];omega)]at Ca sU;have ad9:nx=ar:=sU ((an HT).mem_iff.2 (by simp[qK]));subst ad9
   have mz:cA N F nx (lF T) (jI T) D E:=⟨an HW,an HO,Ca,by
    have:=(an HT).filterMap Tag.aN;rw[show(qK N F).filterMap Tag.aN=N from Aa N F]at this;exact this,by
    have:=(an HT).filterMap Tag.pair;rw[show(qK N F).filterMap Tag.pair=b7 N F from z8 N F]at this;exact this,by
    have:=length_filterMap_le Tag.pair T;have:=an YU;unfold lF;omega⟩
   rw[<-QY Ca.z]at hx;have lj:=Jg hx mz.nodup (fun d hd=>(mz.wf hd).1) Ca.ef (by have:=Ca.len;have:=mz.ix;omega) (fun e he=>(mz.items he).1) (fun e he=>mz.aP he) (fun e he=>(mz.items he).2.2) (by rw[Ca.pr.length_eq];exact mz.ix);have Y0:=aq lj;have nL:=aq mz;clear hx Ca sU lj mz HI HT HRT YU;go_wp2_with fail;refine(an Y0).mono ?_;rintro e w4 ⟨rfl,A2,OL,h4⟩;obtain⟨r,hr,lu,kC,Ow⟩:=(an HW).linked.root;obtain⟨d,hd,hdi,hdk,U8,_⟩:=(an nL).Mg hr;have htg:=zW h4 (an nL).nodup (by rw[(an nL).length];exact(an HO).fits.ix) (by have:=(an HO).top;omega) (fun d hd=>(an nL).wf hd) d hd (by rw[hdi,lu]) (by rw[hdk,kC];rfl) (by rw[U8,Ow]) _ ((an nL).Xz OL)
   have HTg:=aq htg;have HA2:=aq OL;clear h4 Y0 htg hr lu kC Ow hd hdi hdk U8 OL;go_wp2_with fail;refine(an HTg).mono ?_;rintro e w5 ⟨v7,Fd,rfl,T7,h5⟩;obtain⟨_,k1,k2,_⟩:=iM (jF h5);have Yl:∀d∈Fd,d∈D:=fun d hd=>T7.mem_iff.1 hd
   have hlen:Fd.length=D.length:=T7.length_eq;have hN0:=(an nL).length
   have iV:∀d∈D,(bare (bW N d.id)).id=d.id:=fun d hd=>by obtain⟨v,hv,hvi,_⟩:=(an nL).DM hd;rw[<-hvi,gB (an HO).nodup hv];rfl
   have CC:(Fd.map (fun d=>bare (bW N d.id))).map NV.id=Fd.map DN.id:=by rw[map_map];exact map_congr_left fun d hd=>iV d (Yl d hd)
   have hof:=Xv (eb:=nb+1) (E:=E) (an HR) (aw.drew h5) (by simp[eh]) (fun e he=>.tail _ (Lk he)) ae (by rw[length_map,hlen,hN0];exact(an HO).fits.ix) (by
    rw[length_map,hlen,hN0];exact List.length_pos_iff.2 (an HO).root) (fun u hu=>by
    obtain⟨d,hd,rfl⟩:=mem_map.1 hu;rw[iV d (Yl d hd)];exact((an nL).wf (Yl d hd)).1) (by rw[CC];exact(T7.map DN.id).nodup_iff.2 (an nL).nodup) (an nL).read.ef (fun e he=>⟨((an nL).items he).1,((an nL).items he).2.1⟩) (fun u hu hk e he U7=>by
    obtain⟨d,hd,rfl⟩:=mem_map.1 hu;rw[iV d (Yl d hd)]at U7;obtain⟨v,hv,hvi,_⟩:=(an nL).DM (Yl d hd)
    have ll:¬v.aA=1:=by
     have:(bare (bW N d.id)).aA=v.aA:=by rw[<-hvi,gB (an HO).nodup hv];rfl
     rw[<-this];exact hk
    obtain⟨x,hx⟩:=exists_mem_of_ne_nil _ ((an nL).read.ei e he).2;obtain⟨_,u2,AW,hui,Mm,_⟩:=(an nL).item he hx;have:u2=v:=ja (an HO).nodup AW hv (by rw[hui,U7,hvi]);rw[this]at Mm;exact ll Mm) nx
   obtain⟨p7,c7,rfl⟩:∃p c,v7=.slice p Fd.length c:=by
    have:=jV (aw.sat h5 (gL v7 _) ae)
    rwa [length_map]at this
   have HOf:=aq hof;have Xd:=aq T7;have M9:=aq Yl;clear h5 Yl hlen hN0 iV CC hof T7 HTg
   have acj:Hid (∀wx fb mb N' F',jT E F' (Fd.map fun d=>bare (bW N d.id)) N'->(∀x∈F',∃u∈Fd.map (fun d=>bare (bW N d.id)),u.aA=1/\x.2=eE (dz E u.id))->aJ w0 wx fb mb N' F' nx (gL (.slice p7 Fd.length c7) (Fd.map fun d=>bare (bW N d.id))::eh (nb+1+1) nb (nb+1) (mark A2 D) E nx l0)->
    Calls prog 19 #[.pointer (some ⟨fb,0,none⟩)] wx fun e w'=>∃p c,e=.returned (.slice p n c)/\Calls prog 42 #[.slice p n c,.slice (some ⟨g,0,none⟩) n aU] w' fun e F9=>e=.returned (.bool true)/\∃N' F' acc,acc.Perm N/\Twins F F' acc N'/\wj F F'/\aJ w0 F9 fb mb N' F' nx l0):=fun wx fb mb N' F' hB hD hx=>by
    have h:=Km (an HR) (an HO) (an nL) (an Hp) (an Hs) (an Hm) (an Xd) hB hD hx;rw[an Hn]at h;exact h
   obtain⟨n7,hn7⟩:=aa Fd.length;rw[hn7]at HOf acj ⊢;clear hn7;clear HA2 nL Xd M9 HO HW HR Hm Hp Hs Hn;go_wp2_with fail
   go_region_held3 (fun w'=>w'.cell? ⟨nb+1+1,1,none⟩=some (.map (some (nb+1)))/\w'.cell? ⟨nb+1+1,2,none⟩=some (.int .i64 nx)) (first|exact⟨k1,k2⟩|exact⟨m1,m2⟩|go_keep) ((go_at_call 41;refine(an HOf).mono ?_;rintro e w6 ⟨fb,mb,N',F',rfl,hB,hD,h6⟩;have m1:=h6.cellAt (b:=nb+1+1) (t:=84) (vs:=[.map (some nb),.map (some (nb+1)),.int .i64 nx]) (by simp[eh]) (j:=1) (v:=.map (some (nb+1))) rfl;have m2:=h6.cellAt (b:=nb+1+1) (t:=84) (vs:=[.map (some nb),.map (some (nb+1)),.int .i64 nx]) (by simp[eh]) (j:=2) (v:=.int .i64 nx) rfl;have HE:=aq (an acj _ _ _ _ _ hB hD h6);clear hB hD h6))
   all_goals
    go_wp2_with fail
    refine(an HE).mono ?_;rintro e w7 ⟨p,c,rfl,h7⟩;have H7:=aq h7;clear h7 HE;go_wp2_with fail;refine(an H7).mono ?_;rintro e w8 ⟨rfl,h8⟩;have H8:=aq h8;clear h8 H7;go_wp2_with fail;go_ret2;obtain⟨N2,F2,acc,p1,t1,d1,h1⟩:=an H8;exact⟨fb,_,N2,F2,acc,rfl,p1,t1,d1,h1⟩
end
end Go.Proofs.YtphcnmlbieokoaaGreatDoor.T
