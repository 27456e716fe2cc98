import Derived.Test.YtphcnmlbieokoaaGreatDoorC8
import Derived.Test.YtphcnmlbieokoaaGreatDoorC15
import Derived.Shelf.Strconv.Itoa3
import Derived.Shelf.Strings.Repeat
set_option maxRecDepth 100000
set_option maxHeartbeats 16000000
set_option linter.unusedVariables false
set_option linter.unusedSimpArgs false
namespace Go.Proofs.YtphcnmlbieokoaaGreatDoor.T
open Go.RowKit List Go.Proofs.Tryz
section
open Go.Maps (Keyed)
variable {w0 w w':World} {fb mb:Nat} {N:List NV} {F:aC} {ar:Int} {l2:List aI}
abbrev dL (b:Nat):aI:=.obj b (fun _=>True)
theorem aJ.se (h:aJ w0 w fb mb N F ar l2) (hb:Below w.heap.size w w') {b:Nat} (h1:w.heap.size<=b) (h2:b<w'.heap.size):aJ w0 w' fb mb N F ar (dL b::l2):=by
 obtain⟨rs,hr,H⟩:=h;have hs:=aw.size H;have H1:=aw.new (r:=dL b) H (Kept.iH hb) ⟨by omega,_,Array.getElem?_eq_getElem h2,trivial⟩ (fun x hx=>by obtain rfl:=one_pos.1 hx;exact h1) (one_le b);refine⟨rs,hr,aw.conv H1 (fun x=>?_) fun r hr=>aw.sat H1 r ?_⟩
 ·simp only[ax,ay];omega
 ·simp only[mem_cons,mem_append]at hr ⊢
  rcases hr with h|h|h|h|h<;>simp[h]
theorem aJ.zS (l1:List aI) {b:Nat} (h:aJ w0 w fb mb N F ar (l1++dL b::l2)) (hg:w.grownBy w' (some b)):aJ w0 w' fb mb N F ar (l1++dL b::l2):=by
 obtain⟨rs,hr,H⟩:=h;have e:(.cell fb 126 [.map (some mb),.int .i64 ar]::.obj mb (bU N)::(rs++(l1++dL b::l2)):List aI)=(.cell fb 126 [.map (some mb),.int .i64 ar]::.obj mb (bU N)::(rs++l1))++dL b::l2:=by simp
 rw[e]at H;refine⟨rs,hr,?_⟩;rw[e];have hs:=aw.sat H (dL b) (by simp);obtain⟨dJ,o,ho,_⟩:=hs;have eO:b<w.heap.size:=(Array.getElem?_eq_some_iff.1 ho).1;exact aw.put _ H ((Kept.refl _ w).grown hg fun x hx _=>by cases hx;show 0<one b b;rw[bx];decide) ⟨dJ,_,Array.getElem?_eq_getElem (Nat.lt_of_lt_of_le eO hg.size),trivial⟩ (fun x _=>Nat.le_refl _) (one_le b)
theorem aJ.grow (l1:List aI) {v v':Value} {e:TypeId} {k n n':Nat} {xs ys:List Value} (h:aJ w0 w fb mb N F ar (l1++.row v e k n xs::l2)) (hg:w.grownBy w' v.ownBlock) (hr:w'.ownsRow w0.heap.size e k v' n' ys) (ha:v'.ownBlock=v.ownBlock∨∃x,v'.ownBlock=some x/\w.heap.size<=x):aJ w0 w' fb mb N F ar (l1++.row v' e k n' ys::l2):=by
 obtain⟨rs,kC,H⟩:=h;have e1:∀q:aI,(.cell fb 126 [.map (some mb),.int .i64 ar]::.obj mb (bU N)::(rs++(l1++q::l2)):List aI)=(.cell fb 126 [.map (some mb),.int .i64 ar]::.obj mb (bU N)::(rs++l1))++q::l2:=fun q=>by simp
 rw[e1]at H;refine⟨rs,kC,?_⟩;rw[e1];exact aw.grow _ H hg hr ha
theorem aJ.apart {v:Value} {e:TypeId} {k n:Nat} {xs:List Value} {b:Nat} (h:aJ w0 w fb mb N F ar (.row v e k n xs::dL b::l2)):some mb≠v.ownBlock/\some b≠v.ownBlock:=by
 obtain⟨rs,_,H⟩:=h
 constructor
 ·intro e1;have h1:=aw.uniq H mb;have h2:0<eR v mb:=dV.2 e1.symm;simp only[ax,ay,dD]at h1;have h3:(aI.obj mb (bU N)).eI mb=1:=by show one mb mb=1;rw[bx]
  omega
 ·intro e1;have h1:=aw.uniq H b;have h2:0<eR v b:=dV.2 e1.symm;simp only[ax,ay,dD]at h1;have h3:(dL b).eI b=1:=by show one b b=1;rw[bx]
  omega
theorem aJ.low (h:aJ w0 w fb mb N F ar l2):w0.heap.size<=w.heap.size:=h.size
structure Came (N:List NV) (acc:List NV) (left:Lit->Bool):Prop where
 sub:∀u∈acc,u∈N
 nodup:(acc.map NV.id).Nodup
 left:∀i,kg i->(left (.int .i64 i)=true↔(bq N i).isSome=true/\i∉acc.map NV.id)
theorem Came.all {acc:List NV} {left:Lit->Bool} (h:Came N acc left) (hn:(N.map NV.id).Nodup) (hw:∀v∈N,kg v.id) (h0:∀kl,left kl=false):acc.Perm N:=by
 have nr:∀v∈N,v∈acc:=fun v hv=>by
  have h1:=h.left v.id (hw v hv);rw[h0]at h1
  have h2:v.id∈acc.map NV.id:=by apply Classical.byContradiction;intro nR;have:=h1.2 ⟨by rw[fZ hn hv];rfl,nR⟩;cases this
  obtain⟨u,hu,e⟩:=mem_map.1 h2
  have:u=v:=by have a:=fZ hn (h.sub u hu);have b:=fZ hn hv;rw[e,b]at a;exact(Option.some.inj a).symm
  rw[<-this];exact hu
 have JY:acc.Nodup:=(pairwise_map.1 h.nodup).imp fun dr e=>dr (by rw[e])
 have hnN:N.Nodup:=(pairwise_map.1 hn).imp fun dr e=>dr (by rw[e])
 exact(perm_ext_iff_of_nodup JY hnN).2 fun v=>⟨fun hv=>h.sub v hv,nr v⟩
theorem Came.more {acc:List NV} {left:Lit->Bool} (h:Came N acc left) {u:NV} (hw:kg u.id) (hu:bq N u.id=some u) (hl:left (.int .i64 u.id)=true):Came N (acc++[u]) (fun z=>left z && !z.sameKey (.int .i64 u.id)):=by
 have h1:=(h.left u.id hw).1 hl;refine⟨fun x hx=>?_,?_,fun i hi=>?_⟩
 ·rcases mem_append.1 hx with hx|hx
  ·exact h.sub x hx
  ·rw[mem_singleton.1 hx];exact(dm hu).1
 ·rw[map_append,nodup_append];refine⟨h.nodup,by simp,fun a ha b hb e=>?_⟩;simp at hb;subst hb;rw[e]at ha;exact h1.2 ha
 ·have hs:(Lit.int .i64 i).sameKey (.int .i64 u.id)=decide (i=u.id):=by
   simp[Lit.sameKey]
  simp only[hs];rw[map_append,mem_append]
  by_cases e:i=u.id
  ·subst e;simp
  ·have:=h.left i hi;simp[e,this]
theorem AH {acc:List NV} (h1:(acc.map NV.id).Nodup) (h2:∀u∈acc,u∈N) (hn:(N.map NV.id).Nodup):acc.length<=N.length:=by
 have:=sN h1 (m:=N.map NV.id) fun x hx=>by obtain⟨u,hu,rfl⟩:=mem_map.1 hx;exact mem_map.2 ⟨u,h2 u hu,rfl⟩
 rwa [length_map,length_map]at this
theorem jR (w:World) (vs:List Value) (t:TypeId):∀j u,vs[j]? = some u->(w.alloc (.cells vs.toArray t)).cell? ((⟨w.heap.size,0,none⟩:Addr).add j)=some u:=by
 intro j u hj;rw[Addr.add_lit,Nat.zero_add,cell_of_row _ _ j _ t (0,0) (heap_alloc_new w _)]
 simpa using hj
theorem Ib (h:aJ w0 w fb mb N F ar l2) (hF:Fits N F ar) (hn:(N.map NV.id).Nodup) (dr:N≠[]):
 Calls prog 43 #[.pointer (some ⟨fb,0,none⟩)] w fun e w'=>∃v L,e=.returned (.tuple #[v,.int .i64 ar])/\L.Perm N/\L.Pairwise (fun a b=>a.id<=b.id)/\aJ w0 w' fb mb N F ar (gL v L::l2):=by
 obtain⟨i0,hi,hz0,fE,fD⟩:=info_parts IA;have AV:∀v∈N,kg v.id:=fun v hv=>by have:=hF.id v hv;exact il (by omega) (by omega)
 obtain⟨D,ft,hm⟩:=fH h.wW;have q0:=h.kP;have Ua:=hF.ix;have H1:=aq h;have HN:=aq hn;have HW:=aq AV;have HM:=aq hm;have I0:Came N [] (Maps.has D):=⟨by simp,by simp,fun i hi=>by rw[hm.has hi];simp⟩;have gP:Maps.size D=N.length:=hm.size;have HC:=aq I0;have Pw:=aq gP;clear h hn AV hF hm I0 gP;go_enter func43,ntmps43
 go_wp2_with (first|(at_range;refine wpList_range_own _ rfl _ 124 rfl 3 107 kI underlying124 Rv mb N.length D rfl ft ?_;intro w1 AX oP rV)|go_in)
 go_frame
 have dJ:Below w.heap.size w w1:=(Below.refl _ w).grown oP (Nat.le_refl _) (fun j hj=>by cases hj);have h2:=((an H1).se dJ (b:=w.heap.size) (Nat.le_refl _) (by omega)).fJ 52 5;have H2:Hid (aJ w0 w1 fb mb N F ar (gL (.slice none 0 0) []::dL w.heap.size::l2)):=h2;have Py:=aq AX;clear h2 dJ oP rV ft AX q0 H1;go_wp2_with fail
 go_loopg [2,5] (N.length+1) (fun k v2 v5 wr=>∃(acc:List NV) (left:Lit->Bool) (pY:Nat),pY<k/\acc.length<=16/\Hid (wr.ranges prog 3 Rv mb w.heap.size N.length D left pY)/\Hid (aJ w0 wr fb mb N F ar (gL v2 acc::dL w.heap.size::l2))/\Hid (Came N acc left))
 case atStart=>exact⟨[],_,_,by have:=an Pw;omega,by simp,Py,H2,HC⟩
 case round=>
  obtain⟨acc,left,pY,hk,hacc,Hrg3,HI,HC3⟩:=hrel;clear Py H2 HC Pw;have JU:=an Hrg3
  go_wp2_with (first|(at_next;refine wpList_next_ranges _ rfl _ rfl 3 kI Rv (Value.int .i64) id (fun az kl iI=>(by obtain⟨x,hx,_⟩:=Maps.keyOf_int_inv underlying3 iI;exact⟨x,hx⟩)) (fun v y hv=>⟨v,rfl⟩) mb w.heap.size N.length D left pY rfl JU ?_ ?_)|go_in)
  ·intro lv A5;have eU:=(an HC3).all (an HN) (an HW) A5;have hlen:acc.length=N.length:=eU.length_eq;have rX:0<acc.length:=by rw[hlen];exact List.length_pos_iff.2 dr
   have dW:=(an HI).rowAt ae;obtain⟨g,aU,rfl,kE,OG⟩:=aZ dW rX;have Gr:=yO dW rfl (by omega);have YV:=aq Gr;have Hp:=aq eU;clear dW Gr eU lv A5 JU hlen rX kE OG;obtain⟨n,nN⟩:=aa acc.length;rw[nN]at YV;have Hnn:=aq nN;rw[nN];clear nN;go_wp2_with fail;refine(an YV).mono ?_;rintro e w5 ⟨rfl,L',oL,hsorted,hrow5,uE⟩;have hLl:L'.length=n:=by rw[oL.length_eq,an Hnn]
   have h5:aJ w0 w5 fb mb N F ar (gL (.slice (some ⟨g,0,none⟩) n aU) L'::dL w.heap.size::l2):=by unfold gL;rw[hLl];exact aJ.grow [] (an HI) uE hrow5 (.inl rfl)
   have q1:=h5.ni;have H5:=aq h5;have Hs:=aq hsorted;have Hp2:=aq (oL.trans (an Hp));clear h5 hrow5 uE oL hsorted Hp YV HI hLl Hnn;go_wp2_with fail
   go_region
   all_goals go_wp2_with fail
   all_goals refine bodyPost_ret (results_tmp2 rfl _ _ _) rfl ?_
   all_goals exact⟨_,L',rfl,an Hp2,an Hs,((an H5).aD [_]).drew⟩
  ·intro x c kl y1 y2 w2 FF iI lj hv iV qY eO IT ux OD;obtain⟨x',ex,J1,dE⟩:=Maps.keyOf_int_inv underlying3 iI
   cases ex
   subst J1
   have hy:y1=.held c:=by have:some ((.held c,[]):DataW Value×List MemPlace)=some (y1,y2):=hv;exact(congrArg Prod.fst (Option.some.inj this)).symm
   subst hy
   obtain⟨u,hu,T0⟩:∃u,bq N x=some u/\c=u.val:=by
    have hl:=fun z=>(an HM).look x z dE
    cases hf:bq N x with
    |none=>exfalso;have h1:=hl (.lit (.bool true));rw[iV,hf]at h1;cases h1
    |some u=>refine⟨u,rfl,?_⟩;have h1:=hl (.lit (.bool true));rw[iV,hf]at h1;exact DataW.held.inj h1
   subst T0;have hid:u.id=x:=(dm hu).2;subst hid;have mf:=(an HC3).more dE hu lj
   have EU:(acc++[u]).length<=16:=by have:=(AH mf.nodup mf.sub (an HN));omega
   have h3:=aJ.zS [_] (an HI) IT;have lX:=h3.apart;have nt:=h3.low;have Ow:=h3.rowAt ae;have hr4:=(Ow.alloc (.cells #[.int .i64 u.id,.int .i64 u.aA,.int .i64 u.up,.int .i64 u.aB,.string u.aL,.pointer u.ptr] 107)).alloc (.cells #[.int .i64 u.id,.int .i64 u.aA,.int .i64 u.up,.int .i64 u.aB,.string u.aL] 52);have h4:=(h3.alloc (.cells #[.int .i64 u.id,.int .i64 u.aA,.int .i64 u.up,.int .i64 u.aB,.string u.aL,.pointer u.ptr] 107)).alloc (.cells #[.int .i64 u.id,.int .i64 u.aA,.int .i64 u.up,.int .i64 u.aB,.string u.aL] 52)
   have xi:=(qY.alloc (.cells #[.int .i64 u.id,.int .i64 u.aA,.int .i64 u.up,.int .i64 u.aB,.string u.aL,.pointer u.ptr] 107)).alloc (.cells #[.int .i64 u.id,.int .i64 u.aA,.int .i64 u.up,.int .i64 u.aB,.string u.aL] 52);have ct:=jR (w2.alloc (.cells #[.int .i64 u.id,.int .i64 u.aA,.int .i64 u.up,.int .i64 u.aB,.string u.aL,.pointer u.ptr] 107)) [.int .i64 u.id,.int .i64 u.aA,.int .i64 u.up,.int .i64 u.aB,.string u.aL] 52;rw[World.size_alloc]at ct;have Hr4:=aq hr4;have H4:=aq h4;have CK:=aq xi;have W7:=aq lX
   have yM:=aq mf;have Hcl:=aq ct;obtain⟨n,nN⟩:=aa acc.length;rw[nN]at Hr4 hacc;have Hnn:=aq nN;unfold NV.val at OD;clear iI hv iV qY IT ux lj JU Ow hr4 h3 h4 xi lX mf ct HI HC3 Hrg3 hu dE nN
   go_wp2_with (at_builtin;refine wpList_append_own_at _ rfl _ _ 89 rfl w0.heap.size 52 i0 (.agg #[.int .i64 0,.int .i64 0,.int .i64 0,.int .i64 0,.string ⟨#[]⟩]) 5 48 underlying89 hi hz0 fE fD rfl (by decide) _ _ _ rfl (an Hr4) ⟨w2.heap.size+1,0,none⟩ 1 1 [.int .i64 u.id,.int .i64 u.aA,.int .i64 u.up,.int .i64 u.aB,.string u.aL] rfl rfl (an Hcl) (fun y hy=>by simp at hy;rcases hy with rfl|rfl|rfl|rfl|rfl<;>rfl) (by unfold maxLen;omega) (by omega) (by simp;omega) ?_;intro v4 w4 dS cr ig gQ)
   have h5:=aJ.grow [] (v':=v4) (an H4) cr dS (by rcases gQ with h|h;exact .inl h;exact .inr ⟨_,h,Nat.le_refl _⟩);have yY:=(an CK).kept cr (an W7).1 (an W7).2
   have H5:Hid (aJ w0 w4 fb mb N F ar (gL v4 (acc++[u])::dL w.heap.size::l2)):=by show aJ _ _ _ _ _ _ _ _;unfold gL;rw[length_append,an Hnn,Bl];exact h5
   have JF:=aq yY;clear h5 yY dS cr ig gQ H4 CK Hr4 W7 Hcl;go_wp2_with fail
   go_roundg pY
   case measure=>omega
   case rel=>exact⟨acc++[u],_,FF,eO,EU,JF,H5,yM⟩
end
theorem GH (s:ByteArray):(kJ s).map (·.data.toList)=Jk s.data.toList:=by
 unfold kJ;rw[Lib.splitB_data,show Lib.countB s ⟨#[47]⟩=Lib.count s.data.toList [47]from rfl,Lib.count_one];exact Af _
theorem data_inj {a b:List ByteArray} (h:a.map (·.data.toList)=b.map (·.data.toList)):a=b:=by
 induction a generalizing b with
 |nil=>cases b with
  |nil=>rfl
  |cons y b=>simp at h
 |cons x a ih=>cases b with
  |nil=>simp at h
  |cons y b=>simp only[map_cons,List.cons.injEq]at h;rw[toList_inj h.1,ih h.2]
theorem MQ {rs:List Int} (hs:∀r∈rs,bA r) (h:rs≠[]):bI rs≠[]:=by
 intro e;have h1:=(gV rs hs).1;rw[e]at h1;have h2:=List.length_pos_iff.2 h;have h3:rs.length<=0:=h1;omega
theorem Ji (rs:List Int):(bL rs).data.toList=bI rs:=by simp[bL]
theorem C6 {s t:ByteArray} (h:aR s=none) (ht:t.data.toList=47::s.data.toList):fW t=.ok [s]:=by
 obtain⟨hn,he,hd⟩:=iR h;have gP:t.size=s.size+1:=by rw[Lib.size_eq,ht,Lib.size_eq];rfl
 have h24:¬(s.size=0∨24<s.size):=by intro hx;rw[sr hx]at h;cases h
 have Zr:(47:UInt8)∉s.data.toList:=by rw[he,Ji];exact O6 (Name.adA hn)
 have Ov:kJ (t.extract 1 t.size)=[s]:=by apply data_inj;rw[GH,Lib.extract_to_end,ht];exact DP Zr
 have dr:s.data.toList≠[]:=by
  intro e;have:s.size=0:=by rw[Lib.size_eq,e];rfl
  omega
 unfold fW;rw[if_neg (by omega),if_neg (by rw[ht];simp[Lib.hasPrefix]),if_neg (by rw[Lib.toList_data,ht];simpa using dr),Ov]
 have:iv [s]=none:=by unfold iv;rw[hd,h];rfl
 rw[if_neg (by simp),this]
theorem Mf (rs:List Int) (hz:∀r∈rs,Gb r=true):∀(f:Nat) (done rest:List Int),rs=done++rest->iG (bL rs) f (bI done).length=true
 | 0,_,_,_=>rfl
 |f+1,done,rest,he=>by
  cases rest with
  |nil=>apply vm;rw[ej,he,append_nil];omega
  |cons r rest=>
   have hr:r∈rs:=by rw[he];simp
   have hd:=decode_at done r rest (pC (hz r hr));rw[<-he]at hd;unfold iG
   split
   ·rw[hd];have h0:(((r.toNat:Nat):Int))=r:=by have:=(pC (hz r hr)).1;omega
    simp only[h0,hz r hr,Bool.true_and];have:=Mf rs hz f (done++[r]) rest (by rw[he];simp);rw[dq,nD,length_append]at this;exact this
   ·rfl
theorem CN:∀(rs:List Int),(∀r∈rs,bA r)->Lib.validD (bI rs)=true
 |[],_=>rfl
 |r::rs,h=>by have hs:=h r (by simp);have dr:bI (r::rs)≠[]:=MQ h (by simp);rw[Lib.validD_step _ dr,cK,nF hs];have eO:=hs.2;rw[if_neg (by rintro⟨h1,_⟩;simp only at h1;omega)];simp only[drop_left];exact CN rs fun q hq=>h q (by simp[hq])
theorem tQ {ts:List Int} (h:Name ts) (hd:jO (bL ts)=false):aR (bL ts)=none:=by
 have hz:=ej ts;have hb:=h.bytes;have hp:=List.length_pos_iff.2 (MQ h.small h.ne);unfold aR;rw[if_neg (by omega),if_neg (by rw[Ji,CN ts h.small];simp),if_neg,jo h.small]
 ·obtain⟨r,t,Ro⟩:∃r t,ts=r::t:=by
   cases ts with
   |nil=>exact absurd rfl h.ne
   |cons r t=>exact⟨r,t,rfl⟩
  have hf:=h.first r t Ro
  have h0:ts.headD 0=r:=by rw[Ro];rfl
  rw[h0,if_neg (by simpa using hf),if_neg (by rw[hd];simp),if_neg (by have:=h.ix;omega)]
 ·have:=Mf ts h.signs (bL ts).size [] ts rfl;rw[mo,length_nil]at this;unfold rK;rw[this];simp
theorem Sy:bL [97]=⟨#[97]⟩:=by first|kernel_rfl|rfl
theorem Sz:bL [65]=⟨#[65]⟩:=by first|kernel_rfl|rfl
theorem L7:ir ⟨#[97]⟩=[97]:=by rw[<-Sy];exact jo (fun r hr=>by rw[mem_singleton.1 hr];unfold bA;omega)
theorem Uu:ir ⟨#[65]⟩=[65]:=by rw[<-Sz];exact jo (fun r hr=>by rw[mem_singleton.1 hr];unfold bA;omega)
theorem XC:dP ⟨#[97]⟩=dP ⟨#[65]⟩:=by unfold dP;rw[L7,Uu];kernel_rfl
theorem NP {N:List NV} {F:aC} {s t:ByteArray} (h:aR s=none) (ht:t.data.toList=47::s.data.toList):dZ N F t=if (bW N 1).aA≠1 then .error 7 else .ok ⟨bW N 1,dP s,s⟩:=by
 have hd:=(iR h).2.2;unfold dZ;rw[C6 h ht];simp only[getLast_singleton,hd,length_nil,take_zero,jk];rfl
theorem Sp {N:List NV} {F:aC} {s t:ByteArray} (h:aR s=none) (ht:t.data.toList=47::s.data.toList):bX N F t=if (bW N 1).aA≠1 then .error 7 else match cF (bp F (bW N 1)) (dP s)with|none=>.error 5|some it=>.ok (bW N it.aN):=by
 have hd:=(iR h).2.2;unfold jO at hd;simp only[Bool.or_eq_false_iff]at hd
 have hw:bX N F t=fR N F (bW N 1) s:=by unfold bX;rw[C6 h ht];simp only[jk];cases fR N F (bW N 1) s<;>rfl
 rw[hw];unfold fR;rw[hd.1,hd.2];rfl
theorem Ig {x:Int} (h1:Gb x=true) (h2:bu x=0) (h3:(bI [x]).length<=24) (h4:(ff [x]).length<=12):Name [x]:=⟨fun r hr=>by rw[mem_singleton.1 hr];exact h1,by simp,fun r t e=>by cases e;exact h2,h3,h4⟩
theorem VF:aR ⟨#[97]⟩=none:=by
 rw[<-Sy];exact tQ (Ig (by decide +kernel) (by decide) (by decide +kernel) (by decide +kernel)) (by rw[Sy];decide +kernel)
theorem VG:aR ⟨#[65]⟩=none:=by
 rw[<-Sz];exact tQ (Ig (by decide +kernel) (by decide) (by decide +kernel) (by decide +kernel)) (by rw[Sz];decide +kernel)
theorem Xq:(⟨#[47,97]⟩:ByteArray).data.toList=47::(⟨#[97]⟩:ByteArray).data.toList:=rfl
theorem Xr:(⟨#[47,65]⟩:ByteArray).data.toList=47::(⟨#[65]⟩:ByteArray).data.toList:=rfl
theorem G3:∀(L:List aG) (it:aG),it∈da L it
 |[],it=>by simp[da]
 |x::L,it=>by
  unfold da
  split
  ·simp
  split
  ·simp
  ·exact mem_cons_of_mem _ (G3 L it)
theorem OR {az:ByteArray} {it:aG} (hk:it.az=az):∀{L:List aG},bf L->cF (da L it) az=some it:=by
 intro L hs;have:=gk (it:=it) hs;rw[<-hk];exact sY this (G3 L it)
theorem OS (tb:Nat):fU [bS tb] [(tb,[])] ⟨#[47,97]⟩=.ok ⟨bS tb,dP ⟨#[97]⟩,⟨#[97]⟩⟩:=by
 have h1:bW [bS tb] 1=bS tb:=by simp[bW,bq,bS]
 unfold fU;rw[NP VF Xq,h1,if_neg (by simp[bS])];have h2:bp [(tb,([]:List aG))] (bS tb)=[]:=by simp[bp,bS,aX]
 simp only[h2];rfl
theorem O2 (tb t2:Nat) (aL:ByteArray):∃u,u.id=2/\bX (dH [bS tb] ⟨2,1,1,1,aL,some t2⟩) (gl ((t2,[])::[(tb,[])]) tb ⟨dP ⟨#[97]⟩,⟨#[97]⟩,2⟩) ⟨#[47,65]⟩=.ok u:=by
 have hp:dH [bS tb] ⟨2,1,1,1,aL,some t2⟩=[bS tb,⟨2,1,1,1,aL,some t2⟩]:=by simp[dH,bq,bS]
 have h1:bW [bS tb,⟨2,1,1,1,aL,some t2⟩] 1=bS tb:=by simp[bW,bq,bS]
 have h2:bW [bS tb,⟨2,1,1,1,aL,some t2⟩] 2=⟨2,1,1,1,aL,some t2⟩:=by simp[bW,bq,bS]
 refine⟨⟨2,1,1,1,aL,some t2⟩,rfl,?_⟩;rw[Sp VG Xr,hp,h1,if_neg (by simp[bS])]
 have h3:bp (gl ((t2,[])::[(tb,[])]) tb ⟨dP ⟨#[97]⟩,⟨#[97]⟩,2⟩) (bS tb)=da [] ⟨dP ⟨#[97]⟩,⟨#[97]⟩,2⟩:=by
  show aX _ tb=_;unfold gl;rw[pt _ _ _ (by simp)]
  have:aX ((t2,([]:List aG))::[(tb,[])]) tb=[]:=by
   unfold aX;rw[find?_cons]
   split
   ·rfl
   ·simp
  rw[this]
 rw[h3,<-XC,OR (az:=dP ⟨#[97]⟩) rfl List.Pairwise.nil];simp only[h2]
open Go.Lib
section
structure cO (w:World) where
 wld:World
 bel:Below w.heap.size w wld
instance (w:World):Nonempty (cO w):=⟨⟨w,Below.refl _ _⟩⟩
theorem bG {P:Program} {id:Nat} {Q:Exit->Act->World->Prop} {a:Act} {w:World} {l:List Oper} (hm:P.follows .mixedOrders=true) (hB:Region.lexB .any l.toArray=true)
 (h:wpQuiet P l.toArray (fun w'=>∃u:cO w,w'=u.wld) (fun a'=>∀w',(∃u:cO w,w'=u.wld)->Q .normal a' w') l a):(Code.region id l.toArray true).wp P Q a w:=
 wp_region_quiet (C:=fun w'=>∃u:cO w,w'=u.wld) hm hB ⟨⟨_,(Below.refl _ _).drew⟩,rfl⟩ (by simpa using h)
variable {k:Nat} {N:List NV} {F:aC} {ar:Int}
structure Y6 (N:List NV) (es:List aG):Prop where
 az:∀x∈es,x.az=dP x.name
 name:∀x∈es,aR x.name=none
 aN:∀x∈es,x.aN≠1/\∃v∈N,v.id=x.aN
 sorted:bf es
 ix:es.length<=900
theorem Whole.gA (h:Whole N F ar) (hF:Fits N F ar) {u:NV} (hu:u∈N):Y6 N (bo F u):=by
 unfold bo
 split
 ·rename_i hk
  obtain⟨tb,jh,ht⟩:=h.tree u hu hk;have he:bp F u=aX F tb:=by unfold bp;rw[jh]
  obtain⟨h1,h2⟩:=h.trees.look ht;rw[he];refine⟨fun x hx=>(h2 x hx).1,fun x hx=>(h2 x hx).2,fun x hx=>?_,h1,(show zo 900 F from hF.aF).look tb⟩;have hp:(u.id,x)∈b7 N F:=List.mem_flatMap.2 ⟨u,hu,mem_map.2 ⟨x,by rw[iy hk jh];exact hx,rfl⟩⟩;exact h.linked.named _ hp
 ·exact⟨by simp,by simp,by simp,List.Pairwise.nil,by simp⟩
end
def iZ (c:CH):List Value:=[.string c.az,.string c.val,.bool c.gone]
def gF (L:List CH):List Value:=L.flatMap iZ
theorem mK (L:List CH):(gF L).length=L.length*3:=by
 induction L with
 |nil=>rfl
 |cons x L ih=>simp[gF,iZ]at ih ⊢;omega
theorem Bm (L:List CH) (x:CH):gF (L++[x])=gF L++iZ x:=by simp[gF]
theorem xq:∀(L:List CH) (j:Nat) (u:CH),L[j]? = some u->∀i x,(iZ u)[i]? = some x->(gF L)[j*3+i]? = some x
 |y::L,0,u,h,i,x,hx=>by
  have e:y=u:=by simpa using h
  subst e;have hi:i<(iZ y).length:=(List.getElem?_eq_some_iff.1 hx).1
  show(iZ y++gF L)[0*3+i]? = some x;rw[Nat.zero_mul,Nat.zero_add,getElem?_append_left hi];exact hx
 |y::L,j+1,u,h,i,x,hx=>by have:=xq L j u (by simpa using h) i x hx;show(iZ y++gF L)[(j+1)*3+i]? = some x;rw[getElem?_append_right (by simp[iZ];omega)];simp only[iZ,length_cons,length_nil];rw[show(j+1)*3+i-(0+1+1+1)=j*3+i by omega];exact this
def cL (v:Value) (L:List CH):aI:=.row v 86 3 L.length (gF L)
theorem AS:(prog.info? 86).map (fun i=>(i.zero,i.size,i.bytes))=some (some (.agg #[.string ⟨#[]⟩,.string ⟨#[]⟩,.bool false]),3,40):=by kernel_rfl
theorem vS {w:World} {au g n aU:Nat} {L:List CH} (h:w.ownsRow au 86 3 (.slice (some ⟨g,0,none⟩) n aU) n (gF L)) {j:Nat} {u:CH} (hk:L[j]? = some u):
 w.cell? ⟨g,j*3,none⟩=some (.string u.az)/\w.cell? ⟨g,j*3+1,none⟩=some (.string u.val)/\w.cell? ⟨g,j*3+2,none⟩=some (.bool u.gone):=by
 have hl:L.length*3=n*3:=by rw[<-h.1,mK]
 obtain⟨hj,_⟩:=List.getElem?_eq_some_iff.1 hk;have h1:=xq L j u hk;exact⟨by rw[h.cellAt _ (by omega)];exact h1 0 _ rfl,by rw[h.cellAt _ (by omega)];exact h1 1 _ rfl,by rw[h.cellAt _ (by omega)];exact h1 2 _ rfl⟩
theorem jV {w:World} {au:Nat} {v:Value} {e:TypeId} {k n:Nat} {xs:List Value} (h:w.ownsRow au e k v n xs):∃p c,v=.slice p n c:=by
 rcases h.2 with⟨h1,h2⟩|⟨g,aU,cur,h1,_⟩
 ·exact⟨none,0,by rw[h1,h2]⟩
 ·exact⟨_,aU,h1⟩
open Go.Shelf Go.Sort
open Go.Maps (Keyed)
instance:Inhabited CH:=⟨⟨⟨#[]⟩,⟨#[]⟩,false⟩⟩
theorem Jt (x y:CH) (W:World):Calls prog 49 #[.agg (iZ x).toArray,.agg (iZ y).toArray] W fun e w'=>e=.returned (.int .i64 (jP x.az y.az))/\∃q os',w'=grow (W.drewN q) os':=by
 have hc:=fun wx=>lY x.az y.az wx
 generalize jP x.az y.az=r at hc ⊢;have HC:=aq hc;clear hc;simp only[iZ];go_enter func49,ntmps49;go_wp2_with fail;refine(an HC _).mono ?_;rintro e wx ⟨rfl,dE⟩;have dE:=dE.symm;subst dE;go_wp2_with fail;go_ret;exact⟨rfl,0,_,by rw[alloc_eq_grow,alloc_eq_grow,grow_grow];rfl⟩
theorem zE (x y:CH):ltOf (fun a b:CH=>jP a.az b.az) x y=decide (dR x.az y.az):=rfl
theorem adt:SWO (ltOf fun a b:CH=>jP a.az b.az) where
 irrefl x:=by rw[zE];simpa using eH x.az
 trans x y z h1 h2:=by rw[zE]at *;simp at *;exact eZ h1 h2
 ntrans x y z h1 h2:=by
  rw[zE]at *;simp at *;intro h
  by_cases he:y.az=z.az
  ·rw[he]at h1;exact h1 h
  ·by_cases hx:x.az=y.az
   ·rw[hx]at h;exact h2 h
   ·have n1:jP x.az y.az≠0:=fun e=>hx ((gd _ _).1 e)
    have n2:jP y.az z.az≠0:=fun e=>he ((gd _ _).1 e)
    have p1:dR y.az x.az:=by have:=pM x.az y.az;unfold dR at h1 ⊢;omega
    have p2:dR z.az y.az:=by have:=pM y.az z.az;unfold dR at h2 ⊢;omega
    exact jC h (eZ p2 p1)
theorem yx (L:List CH):flatK iZ 3 L.toArray=(gF L).toArray:=by
 apply Array.ext_getElem?;intro t
 by_cases ht:t<L.length*3
 ·have hk:t / 3<L.length:=by omega
  have hr:t%3<3:=Nat.mod_lt _ (by omega);have h0:t<(flatK iZ 3 L.toArray).size:=by simpa using ht
  have h1:=get_flatK iZ 3 L.toArray t (by simpa using ht);rw[getElem!_pos (flatK iZ 3 L.toArray) t h0]at h1;rw[Array.getElem?_eq_getElem h0,h1]
  have h2:L.toArray[t / 3]! = L[t / 3]:=by simp only[getElem!_toArray];rw[getElem!_pos L _ hk]
  rw[h2];have h3:(iZ L[t / 3]).length=3:=rfl;have h5:t%3<(iZ L[t / 3]).length:=by rw[h3];exact hr
  have h4:=xq L (t / 3) L[t / 3] (getElem?_eq_getElem hk) (t%3) ((iZ L[t / 3])[t%3]!) (by rw[getElem!_pos (iZ L[t / 3]) (t%3) h5];exact getElem?_eq_getElem h5);rw[show t / 3*3+t%3=t by omega]at h4;rw[getElem?_toArray];exact h4.symm
 ·rw[Array.getElem?_eq_none (by simp;omega),Array.getElem?_eq_none (by simp[mK];omega)]
theorem Ag {w:World} {au g n aU:Nat} {L:List CH} (h:w.ownsRow au 86 3 (.slice (some ⟨g,0,none⟩) n aU) n (gF L)) (hl:L.length=n) (hn:n<=1000):
 Calls prog 48 #[.slice (some ⟨g,0,none⟩) n aU,.func (.func 49) #[] #[]] w fun e w'=>e=.returned (.tuple #[])/\∃L',L'.Perm L/\L'.Pairwise (fun a b=>¬dR b.az a.az)/\w'.ownsRow au 86 3 (.slice (some ⟨g,0,none⟩) n aU) n (gF L')/\w.grownBy w' (some g):=by
 have eg:∀args w,(callFunc 49 args).run prog w=.ok (.enter 49 args) w:=enters_of func49 (by kernel_rfl) rfl
 have hH:HoldsK iZ 3 w g 0 L.toArray:=by unfold HoldsK;rw[yx];exact Dp h
 have eO:g<w.heap.size:=by
  rcases h.2 with⟨hh,_⟩|⟨g',cap',cur,hv,hb,hg,_⟩
  ·cases hh
  ·injection hv with mv _ _;injection mv with mv;injection mv with mv;subst mv;exact(Array.getElem?_eq_some_iff.1 hg).1
 have hc:=AnyQ.slices_SortFunc Nw 3 isAgg86 sizeOf86 iZ (fun _=>rfl) (fun x v hv=>by simp[iZ]at hv;rcases hv with rfl|rfl|rfl<;>rfl) (fun a b:CH=>jP a.az b.az) adt 49 #[] g 0 aU L.toArray w eg (fun _ _ _ _ x y=>Jt x y _) hH eO (by simp;omega);have e1:L.toArray.size=n:=by simp[hl]
 rw[e1]at hc;refine Calls.mono (show Calls prog 48 _ _ _ from hc) ?_;rintro e w' ⟨he,d',m,os,⟨hs,_,hp⟩,tJ,rfl⟩;have J9:d'.size=n:=by rw[hs,e1]
 have hd:d'.toList.length=n:=by simpa using J9
 have hex:(d'.extract 0 n).toList=d'.toList:=by rw[<-J9];simp
 have X9:(L.toArray.extract 0 n).toList=L:=by rw[<-hl];simp
 rw[hex,X9]at hp
 have hk:flatK iZ 3 d'=(gF d'.toList).toArray:=by have:=yx d'.toList;simpa using this
 have hr:=L9 h (ys:=gF d'.toList) (by rw[mK,mK,hd,hl]) m os
 have hw:sortWorldK iZ 3 w g 0 m d' os=grow (putRow id (Go.Sort.ahead w m) g 0 (gF d'.toList).toArray) os:=by unfold sortWorldK putRowK;rw[hk]
 rw[hw];refine⟨he,d'.toList,hp,?_,hr⟩;rw[pairwise_iff_getElem];intro i j hi hj hij;have h1:=tJ i j (by omega) hij (by omega);rw[zE]at h1;have Zk:i<d'.size:=by simpa using hi
 have PY:j<d'.size:=by simpa using hj
 rw[getElem!_pos d' i Zk,getElem!_pos d' j PY]at h1;have h2:¬dR d'[j].az d'[i].az:=of_decide_eq_false h1;rw[Array.getElem_toList,Array.getElem_toList];exact h2
theorem xT:∀{A B:List CH},A.Perm B->A.Pairwise (fun a b=>¬dR b.az a.az)->B.Pairwise (fun a b=>¬dR b.az a.az)->(A.map CH.az).Nodup->A=B:=by
 intro A B hp hA hB hn
 have nS:∀x y:CH,x.az≠y.az->¬dR y.az x.az->dR x.az y.az:=fun x y dr h=>by
  have n1:jP x.az y.az≠0:=fun e=>dr ((gd _ _).1 e)
  have:=pM x.az y.az;unfold dR at h ⊢;omega
 have strict:∀{L:List CH},L.Pairwise (fun a b=>¬dR b.az a.az)->(L.map CH.az).Nodup->L.Pairwise (fun a b=>dR a.az b.az):=fun h1 h2=>by have h3:=pairwise_map.1 h2;exact(h1.and h3).imp fun⟨a,b⟩=>nS _ _ b a
 exact hp.eq_of_pairwise (fun a b _ _ h1 h2=>absurd h2 (jC h1)) (strict hA hn) (strict hB ((hp.map CH.az).nodup_iff.1 hn))
def lays171_ren:Go.Shelf.Ren:=⟨fun | 129=>147 | 171=>87 | 243=>127 | 246=>194 | 283=>238 | 284=>239 | 285=>240 | 286=>241 | 317=>272 | 318=>273 | 319=>274 | 320=>275 | 337=>284 | 338=>285|n=>n,fun | 37=>178 | 46=>167 | 51=>214 | 53=>37 | 171=>307 | 173=>309 | 212=>339 | 213=>340 | 232=>348 | 233=>349 | 0=>0 | 2=>2 | 3=>3 | 4=>4 | 5=>5 | 9=>9 | 20=>20|n=>n,fun | 17=>5 | 18=>7 | 19=>8|n=>n⟩
theorem lays171:Lays.n171 prog lays171_ren:={
 mixed:=by kernel_rfl
 f129:=ad func147
 f171:=ad func87
 f243:=ad func127
 f246:=ad func194
 f283:=ad func238
 f284:=ad func239
 f285:=ad func240
 f286:=ad func241
 f317:=ad func272
 f318:=ad func273
 f319:=ad func274
 f320:=ad func275
 f337:=ad func284
 f338:=ad func285
 t0:=underlying0
 a0:=isAgg0
 z0:=sizeOf0
 v0:=zeroValue0
 t2:=underlying2
 a2:=isAgg2
 z2:=sizeOf2
 v2:=zeroValue2
 t3:=underlying3
 a3:=isAgg3
 z3:=sizeOf3
 v3:=zeroValue3
 t4:=underlying4
 a4:=isAgg4
 z4:=sizeOf4
 v4:=zeroValue4
 t5:=underlying5
 a5:=isAgg5
 z5:=sizeOf5
 v5:=zeroValue5
 t9:=underlying9
 a9:=isAgg9
 z9:=sizeOf9
 v9:=zeroValue9
 t20:=underlying20
 a20:=isAgg20
 z20:=sizeOf20
 v20:=zeroValue20
 t37:=underlying178
 a37:=isAgg178
 z37:=sizeOf178
 v37:=zeroValue178
 t46:=underlying167
 a46:=isAgg167
 z46:=sizeOf167
 v46:=zeroValue167
 t51:=underlying214
 a51:=isAgg214
 z51:=sizeOf214
 v51:=zeroValue214
 t53:=underlying37
 a53:=isAgg37
 z53:=sizeOf37
 v53:=zeroValue37
 t171:=underlying307
 a171:=isAgg307
 z171:=sizeOf307
 v171:=zeroValue307
 t173:=underlying309
 a173:=isAgg309
 z173:=sizeOf309
 v173:=zeroValue309
 t212:=underlying339
 a212:=isAgg339
 z212:=sizeOf339
 v212:=zeroValue339
 t213:=underlying340
 a213:=isAgg340
 z213:=sizeOf340
 t232:=underlying348
 a232:=isAgg348
 z232:=sizeOf348
 v232:=zeroValue348
 t233:=underlying349
 a233:=isAgg349
 z233:=sizeOf349
 v233:=zeroValue349
 g17:=by kernel_rfl
 g18:=by kernel_rfl
 g19:=by kernel_rfl}
def lays105_ren:Go.Shelf.Ren:=⟨fun | 99=>129 | 105=>88 | 165=>130 | 166=>104 | 169=>106 | 170=>102 | 206=>180 | 212=>128 | 240=>160 | 241=>197 | 263=>195 | 264=>196 | 276=>212 | 277=>242|n=>n,fun | 37=>178 | 46=>167 | 51=>214 | 53=>37 | 70=>177 | 72=>180 | 80=>183 | 75=>30 | 76=>143 | 109=>199 | 127=>231 | 146=>259 | 148=>261 | 164=>276 | 0=>0 | 3=>3 | 4=>4 | 5=>5 | 9=>9 | 20=>20|n=>n,fun|n=>n⟩
theorem lays105:Lays.n105 prog lays105_ren:={
 mixed:=by kernel_rfl
 f99:=ad func129
 f105:=ad func88
 f165:=ad func130
 f166:=ad func104
 f169:=ad func106
 f170:=ad func102
 f206:=ad func180
 f212:=ad func128
 f240:=ad func160
 f241:=ad func197
 f263:=ad func195
 f264:=ad func196
 f276:=ad func212
 f277:=ad func242
 t0:=underlying0
 a0:=isAgg0
 z0:=sizeOf0
 v0:=zeroValue0
 t3:=underlying3
 a3:=isAgg3
 z3:=sizeOf3
 v3:=zeroValue3
 t4:=underlying4
 a4:=isAgg4
 z4:=sizeOf4
 v4:=zeroValue4
 t5:=underlying5
 a5:=isAgg5
 z5:=sizeOf5
 v5:=zeroValue5
 t9:=underlying9
 a9:=isAgg9
 z9:=sizeOf9
 v9:=zeroValue9
 t20:=underlying20
 a20:=isAgg20
 z20:=sizeOf20
 v20:=zeroValue20
 t37:=underlying178
 a37:=isAgg178
 z37:=sizeOf178
 v37:=zeroValue178
 t46:=underlying167
 a46:=isAgg167
 z46:=sizeOf167
 v46:=zeroValue167
 t51:=underlying214
 a51:=isAgg214
 z51:=sizeOf214
 v51:=zeroValue214
 t53:=underlying37
 a53:=isAgg37
 z53:=sizeOf37
 v53:=zeroValue37
 t70:=underlying177
 a70:=isAgg177
 z70:=sizeOf177
 v70:=zeroValue177
 t72:=underlying180
 a72:=isAgg180
 z72:=sizeOf180
 v72:=zeroValue180
 t75:=underlying30
 a75:=isAgg30
 z75:=sizeOf30
 v75:=zeroValue30
 t76:=underlying143
 a76:=isAgg143
 z76:=sizeOf143
 v76:=zeroValue143
 t109:=underlying199
 a109:=isAgg199
 z109:=sizeOf199
 v109:=zeroValue199
 t127:=underlying231
 a127:=isAgg231
 z127:=sizeOf231
 v127:=zeroValue231
 t146:=underlying259
 a146:=isAgg259
 z146:=sizeOf259
 v146:=zeroValue259
 t148:=underlying261
 a148:=isAgg261
 z148:=sizeOf261
 v148:=zeroValue261
 t164:=underlying276
 a164:=isAgg276
 z164:=sizeOf276
 v164:=zeroValue276}
theorem St:Builder.Extra prog lays105_ren:={
 sizeBuilder:=by kernel_rfl
 liesBuilder:=by kernel_rfl
 t5:=underlying5
 a5:=isAgg5
 z5:=sizeOf5
 v5:=zeroValue5
 infoByte:=by kernel_rfl
 cellsByte:=by kernel_rfl
 sizeByte:=by kernel_rfl
 neB5:=by decide}
theorem KF (i:Nat) (hi:i<100) (w:World):Calls prog 87 #[.int .i64 i] w fun e w'=>e=.returned (.string ⟨(Lib.decDigits i).toArray⟩)/\w'=w:=Any.strconv_Itoa_small lays171 i hi w
theorem vf (c:Nat) (hc:c=1∨c=2) (w:World):Calls prog 88 #[.string ⟨#[48]⟩,.int .i64 c] w fun e w'=>e=.returned (.string ⟨(List.replicate c 48).toArray⟩)/\Below w.heap.size w w':=by
 rcases hc with rfl|rfl
 ·exact(Any.strings_Repeat_one lays105 ⟨#[48]⟩ w).mono fun e w' ⟨h1,h2⟩=>⟨h1,by rw[h2];exact Below.refl _ _⟩
 ·exact(Any.strings_Repeat_main lays105 St ⟨#[48]⟩ 2 w (by decide) (by decide) (by decide) (by decide)).mono fun e w' ⟨h1,h2⟩=>⟨h1,h2⟩
theorem BD:∀i:Fin 100,(Lib.decDigits i.val).length=if i.val<10 then 1 else 2:=of_decide_eq_true (by kernel_rfl)
def bJ (n:Nat):ByteArray:=⟨(List.replicate (3-(Lib.decDigits n).length) 48++Lib.decDigits n).toArray⟩
theorem fy {n:Nat} (hn:n<100):(bJ n).size=3:=by
 have h:=BD ⟨n,hn⟩
 show(List.replicate (3-(Lib.decDigits n).length) 48++Lib.decDigits n).toArray.size=3;simp only[size_toArray,length_append,length_replicate];simp only at h
 split at h<;>omega
theorem jl (n:Nat) (hn:n<100) (w:World):Calls prog 44 #[.int .i64 n] w fun e w'=>e=.returned (.string (bJ n))/\Below w.heap.size w w':=by
 have hI:=KF n hn w;have yq:=vf 1 (.inl rfl) w;have J3:=vf 2 (.inr rfl) w;have hl:=BD ⟨n,hn⟩;simp only at hl
 have hT:∀c,(Lib.decDigits n).length=3-c->c<=3->(⟨(List.replicate c 48).toArray⟩:ByteArray)++⟨(Lib.decDigits n).toArray⟩=bJ n:=fun c h hc=>by unfold bJ;rw[h,show 3-(3-c)=c by omega];apply ByteArray.ext;simp
 have gP:(⟨(Lib.decDigits n).toArray⟩:ByteArray).size=(Lib.decDigits n).length:=by show(Lib.decDigits n).toArray.size=_;simp
 obtain⟨s,hs⟩:∃s:ByteArray,(⟨(Lib.decDigits n).toArray⟩:ByteArray)=s:=⟨_,rfl⟩;rw[hs]at hI gP hT
 have hd:s.size=1∨s.size=2:=by rw[gP,hl];split<;>simp
 rcases hd with hd|hd
 ·have hTT:=hT 2 (by omega) (by omega);have HT:=aq hTT;have hz:(s.size:Int)=1:=by omega
  have HI:=aq hI;have HR:=aq J3;clear hI yq J3 hl hT gP hs hTT hd;go_enter func44,ntmps44;go_wp2_with fail;refine(an HI).mono ?_;rintro e w2 ⟨rfl,rfl⟩;clear HI;go_wp2_with fail;refine(an HR).mono ?_;rintro e w3 ⟨rfl,hb⟩;have Hb:=aq hb;clear hb HR;go_wp2_with fail;go_ret;exact⟨by rw[<-an HT];rfl,an Hb⟩
 ·have hTT:=hT 1 (by omega) (by omega);have HT:=aq hTT;have hz:(s.size:Int)=2:=by omega
  have HI:=aq hI;have HR:=aq yq;clear hI yq J3 hl hT gP hs hTT hd;go_enter func44,ntmps44;go_wp2_with fail;refine(an HI).mono ?_;rintro e w2 ⟨rfl,rfl⟩;clear HI;go_wp2_with fail;refine(an HR).mono ?_;rintro e w3 ⟨rfl,hb⟩;have Hb:=aq hb;clear hb HR;go_wp2_with fail;go_ret;exact⟨by rw[<-an HT];rfl,an Hb⟩
section
structure Twin (F F':aC) (v v':NV):Prop where
 id:v'.id=v.id
 aA:v'.aA=v.aA
 up:v'.up=v.up
 aB:v'.aB=v.aB
 aL:v'.aL=v.aL
 gA:bo F' v'=bo F v
 tree:v'.aA=1->∃tb,v'.tb=some tb/\tb∈F'.map (·.1)
def WX (B:List NV) (v':NV):Prop:=v'.aA=1->∀u∈B,u.aA=1->u.tb≠v'.tb
inductive Twins (F F':aC):List NV->List NV->Prop
 |nil:Twins F F' [] []
 |snoc {A B:List NV} {v v':NV}:Twins F F' A B->Twin F F' v v'->WX B v'->Twins F F' (A++[v]) (B++[v'])
theorem Oa {F:aC} {t tb:Nat} {L:List aG} (ht:t∈F.map (·.1)) (hn:tb∉F.map (·.1)):aX ((tb,L)::F) t=aX F t:=by
 have he:(tb==t)=false:=by
  have:tb≠t:=fun e=>hn (e▸ht)
  simpa using this
 simp[aX,find?_cons,he]
theorem s5 {F:aC} {v:NV} {tb:Nat} {L:List aG} (h:v.aA=1->∃t,v.tb=some t/\t∈F.map (·.1)) (hn:tb∉F.map (·.1)):bo ((tb,L)::F) v=bo F v:=by
 unfold bo
 split
 ·rename_i hk
  obtain⟨t,e,ht⟩:=h hk;unfold bp;rw[e];exact Oa ht hn
 ·rfl
theorem Twin.more {F F':aC} {v v':NV} {tb:Nat} {L:List aG} (h:Twin F F' v v') (hn:tb∉F'.map (·.1)):Twin F ((tb,L)::F') v v':=
 ⟨h.id,h.aA,h.up,h.aB,h.aL,by rw[s5 h.tree hn];exact h.gA,fun hk=>by obtain⟨t,e,ht⟩:=h.tree hk;exact⟨t,e,by simp;exact .inr (by simpa using ht)⟩⟩
theorem Twins.more {F F':aC} {A B:List NV} {tb:Nat} {L:List aG} (h:Twins F F' A B) (hn:tb∉F'.map (·.1)):Twins F ((tb,L)::F') A B:=by
 induction h with
 |nil=>exact .nil
 |snoc _ ht fr ih=>exact .snoc ih (ht.more hn) fr
theorem Twins.ids {F F':aC} {A B:List NV} (h:Twins F F' A B):B.map NV.id=A.map NV.id:=by
 induction h with
 |nil=>rfl
 |snoc _ ht _ ih=>rw[map_append,map_append,ih,map_cons,map_cons,ht.id]
theorem Twins.fresh {F F':aC} {A B:List NV} (h:Twins F F' A B) {tb:Nat} (hn:tb∉F'.map (·.1)):∀u∈B,u.aA=1->u.tb≠some tb:=by
 induction h with
 |nil=>intro u hu;cases hu
 |snoc _ ht _ ih=>
  intro u hu hk e
  rcases mem_append.1 hu with hu|hu
  ·exact ih u hu hk e
  ·rw[mem_singleton.1 hu]at hk e;obtain⟨t,e1,h1⟩:=ht.tree hk;rw[e1]at e
   cases e
   exact hn h1
theorem Twins.iq {F F':aC} {A B:List NV} (h:Twins F F' A B):∀u∈B,∀v∈B,u.aA=1->v.aA=1->u.tb=v.tb->u.id=v.id:=by
 induction h with
 |nil=>intro u hu;cases hu
 |snoc _ _ fr ih=>
  intro u hu v hv ku kv e
  rcases mem_append.1 hu with hu|hu
  ·rcases mem_append.1 hv with hv|hv
   ·exact ih u hu v hv ku kv e
   ·rw[mem_singleton.1 hv]at kv e;exact absurd e (fr kv u hu ku)
  ·rw[mem_singleton.1 hu]at ku e ⊢
   rcases mem_append.1 hv with hv|hv
   ·exact absurd e.symm (fr ku v hv kv)
   ·rw[mem_singleton.1 hv]
theorem Twins.length {F F':aC} {A B:List NV} (h:Twins F F' A B):B.length=A.length:=by
 have:=congrArg List.length h.ids
 simpa using this
theorem wO {N:List NV} {v:NV} (h:v.id∉N.map NV.id):dH N v=N++[v]:=by
 unfold dH
 have:(bq N v.id).isSome=false:=by
  cases hf:bq N v.id with
  |none=>rfl
  |some u=>exact absurd (mem_map.2 ⟨u,(dm hf).1,(dm hf).2⟩) h
 rw[this];rfl
abbrev gR (gb gm:Nat) (N':List NV) (ar:Int) (rs' l:List aI):List aI:=.cell gb 126 [.map (some gm),.int .i64 ar]::.obj gm (bU N')::(rs'++l)
variable {w0 w w':World} {fb mb:Nat} {N:List NV} {F:aC} {ar:Int} {l2:List aI}
theorem aJ.swap {gb gm:Nat} {N':List NV} {F':aC} {next':Int} {rs':List aI} (OK:fG F' rs') (h:aJ w0 w fb mb N F ar (gR gb gm N' next' rs' l2)):
 ∃rs,fG F rs/\aJ w0 w gb gm N' F' next' (gR fb mb N ar rs l2):=by
 obtain⟨rs,hr,H⟩:=h;refine⟨rs,hr,rs',OK,H.conv (fun x=>?_) fun r hr=>H.sat r ?_⟩
 ·simp only[ay,ax];omega
 ·simp only[mem_append,mem_cons]at hr ⊢
  rcases hr with h|h|h|h|h|h|h<;>simp[h]
theorem fw {H:Type} {P:Program} {k:TypeId} {R:Value->Option (DataW H×List MemPlace)} {b r n:Nat} {D:DataW H} {left:Lit->Bool} {pY:Nat}
 (h:w.ranges P k R b r n D left pY) (hb:w'.heap[b]? = w.heap[b]?) (hr:w'.heap[r]? = w.heap[r]?):w'.ranges P k R b r n D left pY:=by
 obtain⟨es,clock,since,seen,c0,h1,h2,h3,h4,h5,rest⟩:=h;exact⟨es,clock,since,seen,c0,hb.trans h1,h2,h3,h4,hr.trans h5,rest⟩
theorem aJ.SO {X:aI} {rb gb gm:Nat} {N':List NV} {next':Int} {rs':List aI} (h:aJ w0 w fb mb N F ar (X::dL rb::gR gb gm N' next' rs' l2)) {tb:Nat} (ht:tb∈F.map (·.1)):
 Calls prog 59 #[.pointer (some ⟨tb,0,none⟩)] w fun e w'=>∃lr h' k',e=.returned (.pointer (some ⟨lr,0,none⟩))/\bf (aX F tb)/\k'.L=aX F tb/\k'.c<=3/\(h'=0∨1<=k'.c)/\
  aJ w0 w' fb mb N F ar (X::dL rb::gR gb gm N' next' (.cell lr 192 [bK k'.b]::.sub h' k'::rs') l2)/\w'.heap[mb]? = w.heap[mb]?/\w'.heap[rb]? = w.heap[rb]?:=by
 have qO:=wJ F tb fun x hx e=>by rw[<-e,wX h.nodup hx]
 obtain⟨rs,hr,H⟩:=h;obtain⟨h',k,B6,oY,rfl,a1,a2,a3,a4,a5⟩:=hr.split ht;obtain⟨My,om,hom,him⟩:=H.sat (.obj mb (bU N)) (by simp);obtain⟨wF,orr,hor,_⟩:=H.sat (dL rb) (by simp)
 have HT:fY w0.heap.size w0 (fun _=>0) w tb (aX F tb) (.cell fb 126 [.map (some mb),.int .i64 ar]::.obj mb (fun o=>o=om)::.obj rb (fun o=>o=orr)::(B6++oY++(X::gR gb gm N' next' rs' l2))):=by
  refine⟨a1,h',k,a2,a3,a4,H.conv (fun x=>?_) (fun r hr=>?_)⟩
  ·simp only[ay,ax,vJ];omega
  ·simp only[mem_append,mem_cons]at hr
   rcases hr with h|h|h|h|h|(h|h)|h|h|h|h|h
   ·exact H.sat r (by simp[h])
   ·exact H.sat r (by simp[h])
   ·exact H.sat r (by simp[h])
   ·rw[h];exact⟨My,om,hom,rfl⟩
   ·rw[h];exact⟨wF,orr,hor,rfl⟩
   all_goals exact H.sat r (by simp[h])
 refine(zU _ _ _ w tb _ _ HT).mono ?_;rintro e w' ⟨lr,h2,k2,rfl,b1,b2,b3,s1,h3,k3,c1,c2,c3,H2⟩;obtain⟨_,o1,zQ,rfl⟩:=H2.sat (.obj mb (fun o=>o=om)) (by simp);obtain⟨_,o2,XX,rfl⟩:=H2.sat (.obj rb (fun o=>o=orr)) (by simp);refine⟨lr,h2,k2,rfl,a1,b1,b2,b3,?_,zQ.trans hom.symm,XX.trans hor.symm⟩
 have hR:=a5 h3 k3 (aX F tb) s1 c1 c2 c3 fun x hx t vs e=>by
  have h3:=H2.uniq tb;subst e
  have h4:1<=total (B6++oY) tb:=by have:=gH hx tb;rw[bM,bx]at this;exact this
  simp only[ay,ax,bM,bx]at h3 h4;omega
 rw[qO]at hR;refine⟨B6++.cell tb 192 [bK k3.b]::.sub h3 k3::oY,hR,H2.conv (fun x=>?_) (fun r hr=>?_)⟩
 ·simp only[ay,ax,vJ];omega
 ·simp only[mem_append,mem_cons]at hr
  rcases hr with h|h|(h|h|h|h)|h|h|h|h|(h|h|h)|h
  ·exact H2.sat r (by simp[h])
  ·rw[h];exact⟨My,_,zQ,him⟩
  ·exact H2.sat r (by simp[h])
  ·exact H2.sat r (by simp[h])
  ·exact H2.sat r (by simp[h])
  ·exact H2.sat r (by simp[h])
  ·exact H2.sat r (by simp[h])
  ·rw[h];exact⟨wF,_,XX,trivial⟩
  all_goals exact H2.sat r (by simp[h])
theorem aJ.Md {X:aI} {rb gb gm:Nat} {N':List NV} {next':Int} {rs':List aI} (h:aJ w0 w fb mb N F ar (X::dL rb::gR gb gm N' next' rs' l2)) (hN:N'.length<=1000) (v:NV) (hi:kg v.id):
 ∃w',(Instr.mapUpdate 124 (.map (some gm)) (.int .i64 v.id) v.val).run prog w=.ok () w'/\aJ w0 w' fb mb N F ar (X::dL rb::gR gb gm (dH N' v) next' rs' l2)/\w'.heap[mb]? = w.heap[mb]?/\w'.heap[rb]? = w.heap[rb]?:=by
 obtain⟨rs,hr,H⟩:=h;obtain⟨My,om,hom,him⟩:=H.sat (.obj mb (bU N)) (by simp);obtain⟨wF,orr,hor,_⟩:=H.sat (dL rb) (by simp)
 have H1:aw w0.heap.size w0 (fun _=>0) w ((.cell fb 126 [.map (some mb),.int .i64 ar]::.obj mb (fun o=>o=om)::(rs++(X::.obj rb (fun o=>o=orr)::[.cell gb 126 [.map (some gm),.int .i64 next']])))++.obj gm (bU N')::(rs'++l2)):=by
  refine H.conv (fun x=>?_) (fun r hr=>?_)
  ·simp only[ay,ax,fx,vJ];omega
  ·simp only[mem_append,mem_cons,not_mem_nil,or_false]at hr
   rcases hr with(h|h|h|h|h|h)|h|h|h
   ·exact H.sat r (by simp[h])
   ·rw[h];exact⟨My,om,hom,rfl⟩
   ·exact H.sat r (by simp[h])
   ·exact H.sat r (by simp[h])
   ·rw[h];exact⟨wF,orr,hor,rfl⟩
   all_goals exact H.sat r (by simp[h])
 obtain⟨w',jD,H2⟩:=aw.nj _ H1 hN v hi;obtain⟨_,o1,zQ,rfl⟩:=H2.sat (.obj mb (fun o=>o=om)) (by simp);obtain⟨_,o2,XX,rfl⟩:=H2.sat (.obj rb (fun o=>o=orr)) (by simp);refine⟨w',jD,⟨rs,hr,H2.conv (fun x=>?_) (fun r hr=>?_)⟩,zQ.trans hom.symm,XX.trans hor.symm⟩
 ·simp only[ay,ax,fx,vJ];omega
 ·simp only[mem_append,mem_cons]at hr
  rcases hr with h|h|h|h|h|h|h|h|h
  ·exact H2.sat r (by simp[h])
  ·rw[h];exact⟨My,_,zQ,him⟩
  ·exact H2.sat r (by simp[h])
  ·exact H2.sat r (by simp[h])
  ·rw[h];exact⟨wF,_,XX,trivial⟩
  all_goals exact H2.sat r (by simp[h])
end
section
variable {w0 w w':World} {fb mb:Nat} {N:List NV} {F:aC} {ar:Int} {l2:List aI}
theorem aJ.rP (h:aJ w0 w fb mb N F ar l2):aJ w0 (w.alloc (.map #[] 0)) fb mb N F ar (.obj w.heap.size (bU [])::l2):=by
 obtain⟨rs,hr,H⟩:=h;have H1:=aw.rP H H.size;refine⟨rs,hr,aw.conv H1 (fun x=>?_) fun r hr=>H1.sat r ?_⟩
 ·simp only[ax,ay];omega
 ·simp only[mem_cons,mem_append]at hr ⊢
  rcases hr with h|h|h|h|h<;>simp[h]
theorem aJ.Xw {X:aI} {rb gb gm:Nat} {N':List NV} {F':aC} {next':Int} {rs':List aI} (OK:fG F' rs') (h:aJ w0 w fb mb N F ar (X::dL rb::gR gb gm N' next' rs' l2)):(F'.map (·.1)).Nodup:=by
 obtain⟨rs,hr,H⟩:=h;refine OK.nodup fun x=>?_
 have:=H.uniq x;simp only[ax,ay]at this;omega
theorem Sm {acc:List NV} {u:NV} (h:((acc++[u]).map NV.id).Nodup):u.id∉acc.map NV.id:=by
 rw[map_append,nodup_append]at h;intro hm;exact h.2.2 _ hm _ (by simp) rfl
def wj (F F':aC):Prop:=∀x∈F',∃t,t∈F.map (·.1)/\x.2=aX F t
def PJ (w0:World) (fb mb:Nat) (N:List NV) (F:aC) (ar:Int) (l2:List aI) (e:Ending) (w':World):Prop:=
 ∃gb gm N' F' acc rs',e=.returned (.pointer (some ⟨gb,0,none⟩))/\acc.Perm N/\Twins F F' acc N'/\wj F F'/\fG F' rs'/\aJ w0 w' fb mb N F ar (gR gb gm N' ar rs' l2)
theorem vP (h:aJ w0 w fb mb N F ar l2) (hF:Fits N F ar) (hn:(N.map NV.id).Nodup):
 Calls prog 26 #[.pointer (some ⟨fb,0,none⟩)] w fun e w'=>PJ w0 fb mb N F ar l2 e w':=by
 have AV:∀v∈N,kg v.id:=fun v hv=>by have:=hF.id v hv;exact il (by omega) (by omega)
 have q0:=h.kP;have q1:=h.ni;have q1a:∀o,(w.alloc o).cell? ⟨fb,1,none⟩=some (.int .i64 ar):=fun o=>Lib.cell?_alloc_some o q1
 obtain⟨gm,hgm⟩:=aa w.heap.size;have h1:=h.rP.aY 126 [.map (some gm),.int .i64 ar];rw[World.size_alloc,hgm]at h1;obtain⟨w1,iD⟩:=aa ((w.alloc (.map #[] 0)).alloc (.cells [.map (some gm),.int .i64 ar].toArray 126));rw[iD]at h1;obtain⟨D,ft,hm⟩:=fH h1.wW;have q2:=h1.kP;have Ua:=hF.ix;have H1:Hid (aJ w0 w1 fb mb N F ar (gR (gm+1) gm [] ar [] l2)):=h1;have HN:=aq hn;have HW:=aq AV;have HM:=aq hm;have HTr:=aq hF.tree;have I0:Came N [] (Maps.has D):=⟨by simp,by simp,fun i hi=>by rw[hm.has hi];simp⟩
 have gP:Maps.size D=N.length:=hm.size;have HC:=aq I0;have Pw:=aq gP;have qZ:=@run_makeMap prog;clear h h1 hn AV hF hm I0 gP;go_enter func26,ntmps26
 go_wp2_with (first|(at_range;refine wpList_range_own _ rfl _ 124 rfl 3 107 kI underlying124 Rv mb N.length D rfl ft ?_;intro w2 AX oP rV)|go_in)
 go_frame
 have dJ:Below w1.heap.size w1 w2:=(Below.refl _ w1).grown oP (Nat.le_refl _) (fun j hj=>by cases hj);have h2:=(an H1).se dJ (b:=w1.heap.size) (Nat.le_refl _) (by omega);have H2:Hid (aJ w0 w2 fb mb N F ar (dL w1.heap.size::gR (gm+1) gm [] ar [] l2)):=h2;have Py:=aq AX;clear h2 dJ oP rV ft AX q0 q1 q1a q2 H1 qZ;go_wp2_with fail
 go_loopg [5] (N.length+1) (fun k v5 wr=>∃(acc:List NV) (left:Lit->Bool) (pY:Nat) (N':List NV) (F':aC) (rs':List aI),pY<k/\acc.length<=16/\Hid (wr.ranges prog 3 Rv mb w1.heap.size N.length D left pY)/\Hid (aJ w0 wr fb mb N F ar (dL w1.heap.size::gR (gm+1) gm N' ar rs' l2))/\Hid (Came N acc left)/\Hid (Twins F F' acc N')/\Hid (fG F' rs')/\Hid (wj F F'))
 case atStart=>exact⟨[],_,_,[],[],[],by have:=an Pw;omega,by simp,Py,H2,HC,Twins.nil,fG.nil,fun x hx=>(by cases hx)⟩
 case round=>
  obtain⟨acc,left,pY,N',F',rs',hk,hacc,Hrg3,HI,HC3,HT,HF',Ul⟩:=hrel;clear Py H2 HC Pw;have JU:=an Hrg3
  go_wp2_with (first|(at_next;refine wpList_next_ranges _ rfl _ rfl 3 kI Rv (Value.int .i64) id (fun az kl iI=>(by obtain⟨x,hx,_⟩:=Maps.keyOf_int_inv underlying3 iI;exact⟨x,hx⟩)) (fun v y hv=>⟨v,rfl⟩) mb w1.heap.size N.length D left pY rfl JU ?_ ?_)|go_in)
  ·intro lv A5;have eU:=(an HC3).all (an HN) (an HW) A5;have Hp:=aq eU;clear eU lv A5 JU;go_wp2_with fail;go_ret;exact⟨_,_,N',F',acc,rs',rfl,an Hp,an HT,an Ul,an HF',(an HI).aD []⟩
  ·intro x c kl y1 y2 w2 FF iI lj hv iV qY eO IT ux OD;obtain⟨x',ex,J1,dE⟩:=Maps.keyOf_int_inv underlying3 iI
   cases ex
   subst J1
   have hy:y1=.held c:=by have:some ((.held c,[]):DataW Value×List MemPlace)=some (y1,y2):=hv;exact(congrArg Prod.fst (Option.some.inj this)).symm
   subst hy
   obtain⟨u,hu,T0⟩:∃u,bq N x=some u/\c=u.val:=by
    have hl:=fun z=>(an HM).look x z dE
    cases hf:bq N x with
    |none=>exfalso;have h1:=hl (.lit (.bool true));rw[iV,hf]at h1;cases h1
    |some u=>refine⟨u,rfl,?_⟩;have h1:=hl (.lit (.bool true));rw[iV,hf]at h1;exact DataW.held.inj h1
   subst T0;have hid:u.id=x:=(dm hu).2;subst hid;have mf:=(an HC3).more dE hu lj
   have EU:(acc++[u]).length<=16:=by have:=(AH mf.nodup mf.sub (an HN));omega
   have Rp:=an HTr u (dm hu).1;have rZ:u.id∉N'.map NV.id:=by rw[(an HT).ids];exact Sm mf.nodup
   have RI:N'.length<=1000:=by rw[(an HT).length];omega
   have h3:=aJ.zS [] (an HI) IT;obtain⟨C,hC⟩:=aa w2.heap.size;have h4:=h3.aY 107 [.int .i64 u.id,.int .i64 u.aA,.int .i64 u.up,.int .i64 u.aB,.string u.aL,.pointer u.ptr];rw[hC]at h4;have xi:=qY.alloc (.cells [.int .i64 u.id,.int .i64 u.aA,.int .i64 u.up,.int .i64 u.aB,.string u.aL,.pointer u.ptr].toArray 107);have hmC:mb<C:=by rw[<-hC];exact qY.owns.lt
   have hrC:w1.heap.size<C:=by rw[<-hC];exact qY.lt
   obtain⟨w3,hw3⟩:=aa (w2.alloc (.cells [.int .i64 u.id,.int .i64 u.aA,.int .i64 u.up,.int .i64 u.aB,.string u.aL,.pointer u.ptr].toArray 107));rw[hw3]at h4 xi;have hC3:C<w3.heap.size:=by rw[<-hw3,World.size_alloc,hC];omega
   obtain⟨n0,n1,n2,n3,n4,n5,_⟩:=h4.mP ae;have hf:=fun wx=>eQ u wx
   unfold NV.val at hf OD;have yM:=aq mf;have H4:=aq h4;have CK:=aq xi;have Hfr:=aq rZ;have WZ:=aq RI;have Hwx:=aq dE
   cases ji:(u.aA==1)with
   |false=>
    rw[ji]at hf;have lI:¬u.aA=1:=by simpa using ji
    have Hf:=aq hf;have rj:=aq lI;clear iI hv iV qY IT ux lj JU h3 h4 xi mf HI HC3 Hrg3 hu dE hf ji lI Rp rZ RI;go_wp2_with fail;refine(an Hf _).mono ?_;rintro e w4 ⟨rfl,iU⟩;have h5:=(an H4).step iU;have yY:=fw (an CK) (iU.block mb (by omega)) (iU.block _ (by omega));obtain⟨m0,m1,m2,m3,m4,m5,_⟩:=h5.mP ae;have q5:w4.cell? ⟨gm+1,0,none⟩=some (.map (some gm)):=h5.cellAt ag (j:=0) rfl;obtain⟨w5,fq,h6,e1,e2⟩:=h5.drew.Md (an WZ) u (an Hwx);have yX:=fw yY e1 e2
    unfold NV.val at fq;have vA:Sem.run prog (Instr.mapUpdate 124 (.map (some gm)) (.int .i64 u.id) (.agg #[.int .i64 u.id,.int .i64 u.aA,.int .i64 u.up,.int .i64 u.aB,.string u.aL,.pointer u.ptr])) w4.drew=.ok () w5:=fq;rw[wO (an Hfr)]at h6;have H6:=aq h6;have YL:=aq yX;clear fq h5 yY h6 yX e1 e2 iU Hf H4 CK n0 n1 n2 n3 n4 n5;go_wp2_with fail
    go_region
    all_goals
     go_wp2_with fail
     go_roundg pY
     case measure=>omega
     case rel=>exact⟨acc++[u],_,FF,N'++[u],F',rs',eO,EU,YL,(an H6).aD [],yM,(an HT).snoc ⟨rfl,rfl,rfl,rfl,rfl,by unfold bo;rw[if_neg (an rj),if_neg (an rj)],fun hk=>absurd hk (an rj)⟩ (fun hk=>absurd hk (an rj)),HF',Ul⟩
   |true=>
    rw[ji]at hf;have lI:u.aA=1:=by simpa using ji
    obtain⟨tb,jh,ht⟩:=Rp lI;have yW:u.ptr=some ⟨tb,0,none⟩:=by unfold NV.ptr;rw[jh];rfl
    rw[yW]at hf n5 H4 hw3 OD;have Hf:=aq hf;have rj:=aq lI;have VS:=aq jh;have Ht:=aq ht;clear iI hv iV qY IT ux lj JU h3 h4 xi mf HI HC3 Hrg3 hu dE hf ji lI Rp rZ RI jh ht yW;go_wp2_with fail;refine(an Hf _).mono ?_;rintro e w4 ⟨rfl,iU⟩;have h5:=(an H4).step iU;have yY:=fw (an CK) (iU.block mb (by omega)) (iU.block _ (by omega));obtain⟨m0,m1,m2,m3,m4,m5,_⟩:=h5.mP ae;have T5:=h5.SO (an Ht);have HCp:=aq T5;have JF:=aq yY;clear h5 yY T5 iU Hf H4 CK n0 n1 n2 n3 n4 n5
    go_wp2_with fail
    refine(an HCp).mono ?_;rintro e w5 ⟨lr,h',k',rfl,s1,b1,b2,b3,h6,e1,e2⟩;have yX:=fw (an JF) e1 e2;have Yk:fG ((lr,aX F tb)::F') (.cell lr 192 [bK k'.b]::.sub h' k'::rs'):=.cons lr _ h' k' s1 b1 b2 b3 (an HF');have A3:=h6.Xw Yk;rw[map_cons,nodup_cons]at A3;have g5:=h6.frozenAt ae 5;have g6:w5.cell? ⟨C,5,none⟩=some (.pointer (some ⟨tb,0,none⟩)):=h6.cellAt ae (j:=5) rfl;have h7:=h6.store [] 5 (.pointer (some ⟨lr,0,none⟩)) [.int .i64 u.id,.int .i64 u.aA,.int .i64 u.up,.int .i64 u.aB,.string u.aL,.pointer (some ⟨lr,0,none⟩)] rfl
    have IK:=fw yX (Below.heap_setCell w5 ⟨C,5,none⟩ (.pointer (some ⟨lr,0,none⟩)) mb (by show mb≠C;omega)) (Below.heap_setCell w5 ⟨C,5,none⟩ (.pointer (some ⟨lr,0,none⟩)) w1.heap.size (by show _≠C;omega));obtain⟨w6,hw6⟩:=aa (w5.setCell ⟨C,5,none⟩ (.pointer (some ⟨lr,0,none⟩)));rw[hw6]at h7 IK;obtain⟨p0,p1,p2,p3,p4,p5,_⟩:=aJ.mP h7 ae;have q5:w6.cell? ⟨gm+1,0,none⟩=some (.map (some gm)):=aJ.cellAt h7 ag (j:=0) rfl;obtain⟨w7,fq,h8,e3,e4⟩:=(aJ.drew h7).Md (an WZ) {u with tb:=some lr} (an Hwx)
    have aau:=fw IK e3 e4;unfold NV.val NV.ptr at fq;simp only at fq;have vA:Sem.run prog (Instr.mapUpdate 124 (.map (some gm)) (.int .i64 u.id) (.agg #[.int .i64 u.id,.int .i64 u.aA,.int .i64 u.up,.int .i64 u.aB,.string u.aL,.pointer (some ⟨lr,0,none⟩)])) w6.drew=.ok () w7:=fq;rw[wO (v:={u with tb:=some lr}) (an Hfr)]at h8;have H8:=aq h8;have afe:=aq aau;have J7:=aq Yk
    have afP:Hid (wj F ((lr,aX F tb)::F')):=fun x hx=>by
     rcases mem_cons.1 hx with rfl|hx
     ·exact⟨tb,an Ht,rfl⟩
     ·exact an Ul x hx
    have LQ:Hid (Twins F ((lr,aX F tb)::F') (acc++[u]) (N'++[{u with tb:=some lr}])):=
     ((an HT).more A3.1).snoc ⟨rfl,rfl,rfl,rfl,rfl,by
      unfold bo;rw[if_pos (show({u with tb:=some lr}:NV).aA=1 from an rj),if_pos (an rj)];unfold bp;rw[an VS];simp[aX],fun _=>⟨lr,rfl,by simp⟩⟩ (fun _=>(an HT).fresh A3.1)
    obtain⟨u2,AW⟩:∃u2:NV,({u with tb:=some lr}:NV)=u2:=⟨_,rfl⟩;rw[AW]at H8 LQ;have H9:Hid (aJ w0 w7 fb mb N F ar (dL w1.heap.size::gR (gm+1) gm (N'++[u2]) ar (.cell lr 192 [bK k'.b]::.sub h' k'::rs') l2)):=(an H8).aD [];clear AW H8;clear fq h6 yX h7 IK h8 aau e1 e2 e3 e4 A3 Yk s1 b1 b2 b3 m0 m1 m2 m3 m4 m5 HCp JF;go_wp2_with fail
    go_region
    all_goals
     go_wp2_with fail
     go_roundg pY
     case measure=>omega
     case rel=>exact⟨acc++[u],_,FF,N'++[u2],(lr,aX F tb)::F',.cell lr 192 [bK k'.b]::.sub h' k'::rs',eO,EU,afe,H9,yM,LQ,J7,afP⟩
end
def dN (v:NV):CH:=⟨⟨#[110]⟩++bJ v.id.toNat,((⟨#[if v.aA=1 then 100 else 102]⟩++bJ v.up.toNat)++bJ v.aB.toNat)++v.aL,false⟩
noncomputable def gU (i:Int) (x:aG):CH:=⟨(⟨#[101]⟩++bJ i.toNat)++dP x.name,bJ x.aN.toNat++x.name,false⟩
noncomputable def cY (F:aC) (v:NV):List CH:=dN v::(bo F v).map (gU v.id)
def gw (ar:Int):CH:=⟨⟨#[120]⟩,bJ ar.toNat,false⟩
noncomputable def rowsOf (F:aC) (ar:Int) (L:List NV):List CH:=gw ar::L.flatMap (cY F)
theorem kj {F:aC} {ar:Int} {L N:List NV} (h:L.Perm N):(rowsOf F ar L).Perm (rowsOf F ar N):=(h.flatMap_right (cY F)).cons _
theorem Nk {F F':aC} {v v':NV} (h:Twin F F' v v'):cY F' v'=cY F v:=by
 unfold cY dN;rw[h.gA,h.id,h.aA,h.up,h.aB,h.aL]
theorem qa {F F':aC} {ar:Int} {A B:List NV} (h:Twins F F' A B):rowsOf F' ar B=rowsOf F ar A:=by
 have:B.flatMap (cY F')=A.flatMap (cY F):=by
  induction h with
  |nil=>rfl
  |snoc _ ht _ ih=>rw[flatMap_append,flatMap_append,ih];simp[Nk ht]
 unfold rowsOf;rw[this]
theorem CQ:∀i:Fin 100,(bJ i.val).data.toList=[48,UInt8.ofNat (48+i.val / 10),UInt8.ofNat (48+i.val%10)]:=of_decide_eq_true (by kernel_rfl)
theorem Nl:∀i j:Fin 100,UInt8.ofNat (48+i.val / 10)=UInt8.ofNat (48+j.val / 10)->UInt8.ofNat (48+i.val%10)=UInt8.ofNat (48+j.val%10)->i=j:=of_decide_eq_true (by kernel_rfl)
theorem Gw {a b:Nat} (ha:a<100) (hb:b<100) (h:bJ a=bJ b):a=b:=by
 have h1:=CQ ⟨a,ha⟩;have h2:=CQ ⟨b,hb⟩;simp only at h1 h2;rw[h,h2]at h1;injection h1 with _ h1;injection h1 with h3 h1;injection h1 with h4 _;exact congrArg Fin.val (Nl ⟨a,ha⟩ ⟨b,hb⟩ h3.symm h4.symm)
theorem kz {a b:ByteArray} (h:a.data.toList=b.data.toList):a=b:=ByteArray.ext (by simpa using h)
theorem gW (a b:ByteArray):(a++b).data.toList=a.data.toList++b.data.toList:=by simp
theorem BM {a b c d:ByteArray} (hs:a.size=c.size) (h:a++b=c++d):a=c/\b=d:=by
 have h1:=congrArg (fun x:ByteArray=>x.data.toList) h;simp only[gW]at h1
 have h2:a.data.toList.length=c.data.toList.length:=by have e1:a.data.toList.length=a.size:=(Lib.size_eq a).symm;have e2:c.data.toList.length=c.size:=(Lib.size_eq c).symm;omega
 obtain⟨h3,h4⟩:=append_inj h1 h2;exact⟨kz h3,kz h4⟩
theorem QF:∀(n:Nat) (l:List Int),l.length<=n->(fA l).length<=l.length:=by
 intro n
 induction n with
 |zero=>intro l h;have:l=[]:=eq_nil_of_length_eq_zero (by omega);subst this;simp[fA]
 |succ n ih=>
  intro l h
  match l with
  |[]=>simp[fA]
  |[r]=>simp[fA]
  |r::q::t=>
   rw[fA]
   split
   ·have:=ih t (by simp at h;omega);simp only[length_cons];omega
   ·have:=ih (q::t) (by simp at h ⊢;omega);simp only[length_cons]at this ⊢;omega
theorem Df {s:ByteArray} (h:aR s=none):(dP s).size<=100:=by
 obtain⟨hn,_,_⟩:=iR h;have h1:=hn.ix;have h2:=QF _ (gT (ir s)) (Nat.le_refl _);have h3:(gT (ir s)).length=(ff (ir s)).length:=by simp[gT]
 obtain⟨f1,f2,_,_⟩:=Al (fA (gT (ir s)))
 have h4:(dP s).size=(Ra (fA (gT (ir s)))).length:=by unfold dP kOf Rb toB;simp[ByteArray.size]
 rw[h4];unfold Ra;simp only[length_append,length_cons,length_nil];omega
theorem Dc {s:ByteArray} (h:aR s=none):s.size<=100:=by
 obtain⟨hn,e,_⟩:=iR h;have:=hn.bytes;rw[e,ej];omega
structure jx (N:List NV) (F:aC) (ar:Int):Prop where
 fits:Fits N F ar
 nodup:(N.map NV.id).Nodup
 root:N≠[]
 ids:∀v∈N,0<=v.id/\v.id<100
 ups:∀v∈N,0<=v.up/\v.up<100
 aB:∀v∈N,0<=v.aB/\v.aB<100
 aL:∀v∈N,v.aL.size<=20
 top:0<=ar/\ar<100
 gA:∀v∈N,∀x∈bo F v,x.az=dP x.name/\aR x.name=none/\0<=x.aN/\x.aN<100
 sorted:∀v∈N,bf (bo F v)
 aF:(rowsOf F ar N).length<=1000
theorem Kr {v:NV} {ar:Int}:(dN v).az≠(gw ar).az:=by
 intro h;have h1:=congrArg (fun x:ByteArray=>x.data.toList) h;simp[dN,gw,gW]at h1
theorem O5 {i:Int} {x:aG} {ar:Int}:(gU i x).az≠(gw ar).az:=by
 intro h;have h1:=congrArg (fun x:ByteArray=>x.data.toList) h;simp[gU,gw,gW]at h1
theorem uj {v:NV} {i:Int} {x:aG}:(dN v).az≠(gU i x).az:=by
 intro h;have h1:=congrArg (fun x:ByteArray=>x.data.toList) h;simp[gU,dN,gW]at h1
theorem Ie {u v:NV} (hu:0<=u.id/\u.id<100) (hv:0<=v.id/\v.id<100) (h:(dN u).az=(dN v).az):u.id=v.id:=by
 have h1:=(BM rfl h).2;have:=Gw (by omega) (by omega) h1;omega
theorem Bu {i j:Int} {x y:aG} (hi:0<=i/\i<100) (hj:0<=j/\j<100) (h:(gU i x).az=(gU j y).az):i=j/\dP x.name=dP y.name:=by
 have hi2:i.toNat<100:=by omega
 have OA:j.toNat<100:=by omega
 have h0:((⟨#[101]⟩:ByteArray)++bJ i.toNat).size=((⟨#[101]⟩:ByteArray)++bJ j.toNat).size:=by rw[ByteArray.size_append,ByteArray.size_append,fy hi2,fy OA]
 obtain⟨h1,h2⟩:=BM h0 h;have h3:=(BM rfl h1).2;have:=Gw hi2 OA h3;exact⟨by omega,h2⟩
theorem oc {F:aC} {v:NV} {c:CH} (h:c∈cY F v):c=dN v∨∃x∈bo F v,c=gU v.id x:=by
 rcases mem_cons.1 h with h|h
 ·exact .inl h
 ·obtain⟨x,hx,rfl⟩:=mem_map.1 h;exact .inr ⟨x,hx,rfl⟩
theorem jx.keys {N:List NV} {F:aC} {ar:Int} (h:jx N F ar):((rowsOf F ar N).map CH.az).Nodup:=by
 have mz:∀(M:List NV),(∀v∈M,v∈N)->(M.map NV.id).Nodup->((M.flatMap (cY F)).map CH.az).Nodup:=by
  intro M
  induction M with
  |nil=>intros;simp
  |cons v M ih=>
   intro hs hn;rw[map_cons,nodup_cons]at hn;have ihM:=ih (fun u hu=>hs u (mem_cons_of_mem _ hu)) hn.2;have PR:=hs v mem_cons_self;rw[flatMap_cons,map_append,nodup_append];refine⟨?_,ihM,?_⟩
   ·show(((dN v).az)::((bo F v).map (gU v.id)).map CH.az).Nodup;rw[nodup_cons];refine⟨fun hm=>?_,?_⟩
    ·obtain⟨c,hc,e⟩:=mem_map.1 hm;obtain⟨x,hx,rfl⟩:=mem_map.1 hc;exact uj e.symm
    ·rw[map_map];refine pairwise_map.2 ?_;refine(List.Pairwise.imp_of_mem (fun {a b} ha hb hk e=>?_) (h.sorted v PR));have h1:=(Bu (h.ids v PR) (h.ids v PR) e).2;rw[<-(h.gA v PR a ha).1,<-(h.gA v PR b hb).1]at h1;rw[h1]at hk;exact eH _ hk
   ·intro a ha b hb e;subst e;obtain⟨c,hc,e1⟩:=mem_map.1 ha;obtain⟨d,hd,e2⟩:=mem_map.1 hb;obtain⟨u,hu,U8⟩:=List.mem_flatMap.1 hd;have TS:=hs u (mem_cons_of_mem _ hu);have dr:v.id≠u.id:=fun e=>hn.1 (e▸mem_map.2 ⟨u,hu,rfl⟩)
    have hk:c.az=d.az:=e1.trans e2.symm
    rcases oc hc with rfl|⟨x,hx,rfl⟩<;>rcases oc U8 with rfl|⟨y,hy,rfl⟩
    ·exact dr (Ie (h.ids v PR) (h.ids u TS) hk)
    ·exact uj hk
    ·exact uj hk.symm
    ·exact dr (Bu (h.ids v PR) (h.ids u TS) hk).1
 show((gw ar).az::(N.flatMap (cY F)).map CH.az).Nodup;rw[nodup_cons];refine⟨fun hm=>?_,mz N (fun v hv=>hv) h.nodup⟩;obtain⟨c,hc,e⟩:=mem_map.1 hm;obtain⟨u,hu,T0⟩:=List.mem_flatMap.1 hc
 rcases oc T0 with rfl|⟨x,hx,rfl⟩
 ·exact Kr e
 ·exact O5 e
theorem Twins.back {F F':aC} {A B:List NV} (h:Twins F F' A B):∀v'∈B,∃v∈A,Twin F F' v v':=by
 induction h with
 |nil=>intro v' hv;cases hv
 | @snoc A B v v' _ ht _ ih=>
  intro x hx
  rcases mem_append.1 hx with hx|hx
  ·obtain⟨u,hu,h2⟩:=ih x hx;exact⟨u,mem_append_left _ hu,h2⟩
  ·rw[mem_singleton.1 hx];exact⟨v,mem_append_right _ (by simp),ht⟩
theorem jx.copy {N acc N':List NV} {F F':aC} {ar:Int} (h:jx N F ar) (hp:acc.Perm N) (ht:Twins F F' acc N') (hd:wj F F'):jx N' F' ar:=by
 have hb:∀v'∈N',∃v∈N,Twin F F' v v':=fun v' hv=>by obtain⟨v,h1,h2⟩:=ht.back v' hv;exact⟨v,hp.mem_iff.1 h1,h2⟩
 have hlen:N'.length=N.length:=by rw[ht.length,hp.length_eq]
 have hf:=h.fits;refine⟨⟨fun v hv hk=>?_,by rw[hlen];exact hf.ix,fun v hv=>?_,fun v hv=>?_,fun x hx=>?_,fun x hx=>?_,hf.ar,fun x hx=>?_⟩,?_,fun e=>?_,fun v hv=>?_,fun v hv=>?_,fun v hv=>?_,fun v hv=>?_,h.top,fun v hv=>?_,fun v hv=>?_,?_⟩
 ·obtain⟨u,hu,t⟩:=hb v hv;exact t.tree hk
 ·obtain⟨u,hu,t⟩:=hb v hv;rw[t.id];exact hf.id u hu
 ·obtain⟨u,hu,t⟩:=hb v hv;rw[t.up];exact hf.up u hu
 ·obtain⟨t,ht,e⟩:=hd x hx;rw[e];exact hf.gA _ (dh ht)
 ·obtain⟨t,ht,e⟩:=hd x hx;rw[e];exact hf.full _ (dh ht)
 ·obtain⟨t,ht,e⟩:=hd x hx;rw[e];exact hf.aF _ (dh ht)
 ·rw[ht.ids];exact(hp.map NV.id).nodup_iff.2 h.nodup
 ·rw[e]at hlen;exact h.root (eq_nil_of_length_eq_zero hlen.symm)
 ·obtain⟨u,hu,t⟩:=hb v hv;rw[t.id];exact h.ids u hu
 ·obtain⟨u,hu,t⟩:=hb v hv;rw[t.up];exact h.ups u hu
 ·obtain⟨u,hu,t⟩:=hb v hv;rw[t.aB];exact h.aB u hu
 ·obtain⟨u,hu,t⟩:=hb v hv;rw[t.aL];exact h.aL u hu
 ·obtain⟨u,hu,t⟩:=hb v hv;rw[t.gA];exact h.gA u hu
 ·obtain⟨u,hu,t⟩:=hb v hv;rw[t.gA];exact h.sorted u hu
 ·rw[qa ht,(kj hp).length_eq];exact h.aF
theorem Bk (F:aC) (k:Nat):∀(N:List NV),(∀v∈N,(bo F v).length<=k)->(N.flatMap (cY F)).length<=N.length*(k+1)
 |[],_=>by simp
 |v::N,h=>by
  have:=Bk F k N fun u hu=>h u (mem_cons_of_mem _ hu)
  have h1:=h v mem_cons_self;rw[flatMap_cons,length_append,length_cons,Nat.add_mul,Nat.one_mul];have h2:(cY F v).length=(bo F v).length+1:=by simp[cY]
  omega
theorem Good.QB {k:Nat} {N:List NV} {F:aC} {ar:Int} (h:Good k N F ar) (hk:k<=90) (RE:(rowsOf F ar N).length<=1000):jx N F ar:=by
 have hf:=h.fits;have hw:=h.whole;have hl:=hw.linked;have htop:=h.goo.top;have CC:∀v∈N,0<=v.id/\v.id<100:=fun v hv=>by have:=hw.ids v hv;omega
 have Dx:=fun v hv=>hw.gA hf (u:=v) hv
 obtain⟨r,hr,lu,kC,Ow⟩:=hl.root;refine⟨hf,hl.nodup,fun e=>(by rw[e]at hr;cases hr),CC,fun v hv=>?_,fun v hv=>?_,fun v hv=>?_,by have:=hf.ar;omega,fun v hv x hx=>?_,fun v hv=>(Dx v hv).sorted,?_⟩
 ·rcases hl.kinds v hv with⟨k1,_⟩|⟨_,k2,_⟩
  ·by_cases h1:v.id=1
   ·have:v=r:=by
     have a:=fZ hl.nodup hv;have b:=fZ hl.nodup hr;rw[h1,<-lu,b]at a;exact(Option.some.inj a).symm
    rw[this,Ow];omega
   ·obtain⟨it,h2,_⟩:=hl.ups v hv k1 h1;obtain⟨u,hu,e,_⟩:=hl.aP _ h2;have:=CC u hu;simp only at e;omega
  ·omega
 ·have:=h.goo.aB v hv;omega
 ·rcases hl.kinds v hv with⟨_,_,e⟩|⟨_,_,e⟩
  ·rw[e];decide
  ·exact e
 ·obtain⟨_,u,hu,e⟩:=(Dx v hv).aN x hx;have:=CC u hu;exact⟨(Dx v hv).az x hx,(Dx v hv).name x hx,by omega,by omega⟩
 ·exact RE
theorem Good.aF {k:Nat} {N:List NV} {F:aC} {ar:Int} (h:Good k N F ar) (hk:k<=60):(rowsOf F ar N).length<=1000:=by
 have hw:=h.whole
 have lj:∀v∈N,(bo F v).length<=k:=fun v hv=>by
  unfold bo
  split
  ·rename_i ji
   obtain⟨tb,jh,ht⟩:=hw.tree v hv ji;unfold bp;rw[jh];exact h.ix.look tb
  ·simp
 have h1:=Bk F k N lj;have h2:=h.fits.ix
 show(N.flatMap (cY F)).length+1<=1000;have h3:N.length*(k+1)<=16*61:=Nat.mul_le_mul h2 (by omega);omega
section
variable {N acc N':List NV} {F F':aC} {ar:Int} {k:Nat}
theorem Twins.WT {A B:List NV} (h:Twins F F' A B):∀v∈A,∃v'∈B,Twin F F' v v':=by
 induction h with
 |nil=>intro v' hv;cases hv
 | @snoc A B v v' _ ht _ ih=>
  intro x hx
  rcases mem_append.1 hx with hx|hx
  ·obtain⟨u,hu,h2⟩:=ih x hx;exact⟨u,mem_append_left _ hu,h2⟩
  ·rw[mem_singleton.1 hx];exact⟨v',mem_append_right _ (by simp),ht⟩
theorem Twins.NA {A B:List NV} (h:Twins F F' A B):b7 B F'=b7 A F:=by
 induction h with
 |nil=>rfl
 | @snoc A B v v' _ ht _ ih=>show(B++[v']).flatMap _=(A++[v]).flatMap _;rw[flatMap_append,flatMap_append];show b7 B F'++_=b7 A F++_;rw[ih];simp[ht.id,ht.gA]
theorem cU.copy {E:List (Int×aG)} (h:cU N E) (hp:acc.Perm N) (ht:Twins F F' acc N'):cU N' E:=by
 have hb:∀v'∈N',∃v∈N,Twin F F' v v':=fun v' hv=>by obtain⟨v,h1,h2⟩:=ht.back v' hv;exact⟨v,hp.mem_iff.1 h1,h2⟩
 have hf:∀v∈N,∃v'∈N',Twin F F' v v':=fun v hv=>ht.WT v (hp.mem_iff.2 hv)
 refine⟨by rw[ht.ids];exact(hp.map NV.id).nodup_iff.2 h.nodup,?_,fun v hv=>?_,fun x hx=>?_,fun x hx=>?_,fun v hv h1=>?_,fun v hv hk h1=>?_,fun v hv hk=>?_⟩
 ·obtain⟨r,hr,h1,h2,h3⟩:=h.root;obtain⟨r',uA,t⟩:=hf r hr;exact⟨r',uA,by rw[t.id,h1],by rw[t.aA,h2],by rw[t.up,h3]⟩
 ·obtain⟨u,hu,t⟩:=hb v hv;rw[t.aA,t.aB,t.aL,t.up];exact h.kinds u hu
 ·obtain⟨h1,u,hu,e⟩:=h.named x hx;obtain⟨u',Wj,t⟩:=hf u hu;exact⟨h1,u',Wj,by rw[t.id,e]⟩
 ·obtain⟨u,hu,e,hk⟩:=h.aP x hx;obtain⟨u',Wj,t⟩:=hf u hu;exact⟨u',Wj,by rw[t.id,e],by rw[t.aA,hk]⟩
 ·obtain⟨u,hu,t⟩:=hb v hv;rw[t.id]at h1 ⊢;rw[t.aB];exact h.pY u hu h1
 ·obtain⟨u,hu,t⟩:=hb v hv;rw[t.id]at h1 ⊢;rw[t.aA]at hk;rw[t.up];exact h.ups u hu hk h1
 ·obtain⟨u,hu,t⟩:=hb v hv;rw[t.aA]at hk;rw[t.id];refine(h.Ba u hu hk).mono fun x hx Ml=>?_
  obtain⟨x',sS,t'⟩:=hf x hx;exact⟨x',sS,t'.id,by rw[t'.aA,Ml],t'.up⟩
theorem Good.copy (h:Good k N F ar) (hp:acc.Perm N) (ht:Twins F F' acc N') (hd:wj F F') (hn:(F'.map (·.1)).Nodup):Good k N' F' ar:=by
 have hb:∀v'∈N',∃v∈N,Twin F F' v v':=fun v' hv=>by obtain⟨v,h1,h2⟩:=ht.back v' hv;exact⟨v,hp.mem_iff.1 h1,h2⟩
 have hlen:N'.length=N.length:=by rw[ht.length,hp.length_eq]
 have hf:=h.fits;have hT:=h.whole.trees;refine⟨⟨⟨fun v hv hk=>?_,by rw[hlen];exact hf.ix,fun v hv=>?_,fun v hv=>?_,fun x hx=>?_,fun x hx=>?_,hf.ar,fun x hx=>?_⟩,fun x hx=>?_,fun v hv=>?_,h.goo.top⟩,⟨?_,⟨hn,fun x hx=>?_,fun x hx=>?_⟩,fun v hv=>?_,fun v hv hk=>?_,ht.iq⟩⟩
 ·obtain⟨u,hu,t⟩:=hb v hv;exact t.tree hk
 ·obtain⟨u,hu,t⟩:=hb v hv;rw[t.id];exact hf.id u hu
 ·obtain⟨u,hu,t⟩:=hb v hv;rw[t.up];exact hf.up u hu
 ·obtain⟨t,ht,e⟩:=hd x hx;rw[e];exact hf.gA _ (dh ht)
 ·obtain⟨t,ht,e⟩:=hd x hx;rw[e];exact hf.full _ (dh ht)
 ·obtain⟨t,ht,e⟩:=hd x hx;rw[e];exact hf.aF _ (dh ht)
 ·obtain⟨t,ht,e⟩:=hd x hx;rw[e];exact h.ix _ (dh ht)
 ·obtain⟨u,hu,t⟩:=hb v hv;rw[t.aB];exact h.goo.aB u hu
 ·have h1:(b7 N F).Perm (b7 N' F'):=by
   rw[ht.NA];exact(hp.flatMap_right _).symm
  exact(h.whole.linked.copy hp ht).perm h1
 ·obtain⟨t,ht,e⟩:=hd x hx;rw[e];exact hT.named _ (dh ht)
 ·obtain⟨t,ht,e⟩:=hd x hx;rw[e];exact hT.sorted _ (dh ht)
 ·obtain⟨u,hu,t⟩:=hb v hv;rw[t.id];exact h.whole.ids u hu
 ·obtain⟨u,hu,t⟩:=hb v hv;exact t.tree hk
end
section
variable {N N':List NV} {F F':aC}
structure BQ (F F':aC) (v v':NV):Prop where
 id:v'.id=v.id
 aA:v'.aA=v.aA
 up:v'.up=v.up
 aB:v'.aB=v.aB
 aL:v'.aL=v.aL
 gA:bo F' v'=bo F v
theorem BQ.zero:BQ F F' NV.zero NV.zero:=⟨rfl,rfl,rfl,rfl,rfl,rfl⟩
inductive LH (F F':aC):Option NV->Option NV->Prop
 |none:LH F F' none none
 |some {v v':NV}:BQ F F' v v'->LH F F' (some v) (some v')
theorem LH.getD {a b:Option NV} (h:LH F F' a b):BQ F F' (a.getD NV.zero) (b.getD NV.zero):=by
 cases h with
 |none=>exact .zero
 |some t=>exact t
theorem LH.isSome {a b:Option NV} (h:LH F F' a b):b.isSome=a.isSome:=by cases h<;>rfl
structure eX (N:List NV) (F:aC) (N':List NV) (F':aC):Prop where
 look:∀i,LH F F' (bq N i) (bq N' i)
 len:N'.length=N.length
 nd:(N.map NV.id).Nodup
 nd':(N'.map NV.id).Nodup
theorem eX.bW (h:eX N F N' F') (i:Int):BQ F F' (bW N i) (bW N' i):=(h.look i).getD
theorem Twin.twk {v v':NV} (h:Twin F F' v v'):BQ F F' v v':=⟨h.id,h.aA,h.up,h.aB,h.aL,h.gA⟩
theorem qe {acc:List NV} (hn:(N.map NV.id).Nodup) (hp:acc.Perm N) (ht:Twins F F' acc N'):eX N F N' F':=by
 have Wq:(N'.map NV.id).Nodup:=by rw[ht.ids];exact(hp.map NV.id).nodup_iff.2 hn
 refine⟨fun i=>?_,by rw[ht.length,hp.length_eq],hn,Wq⟩
 cases hf:bq N i with
 |some v=>obtain⟨hv,rfl⟩:=dm hf;obtain⟨v',IC,t⟩:=ht.WT v (hp.mem_iff.2 hv);rw[<-t.id,fZ Wq IC];exact .some t.twk
 |none=>
  cases hf':bq N' i with
  |none=>exact .none
  |some v'=>obtain⟨IC,rfl⟩:=dm hf';obtain⟨v,hv,t⟩:=ht.back v' IC;exact absurd t.id.symm (lK hf v (hp.mem_iff.1 hv))
theorem BQ.trans {F'':aC} {a b c:NV} (h:BQ F F' a b) (k:BQ F' F'' b c):BQ F F'' a c:=
 ⟨k.id.trans h.id,k.aA.trans h.aA,k.up.trans h.up,k.aB.trans h.aB,k.aL.trans h.aL,k.gA.trans h.gA⟩
theorem BQ.symm {a b:NV} (h:BQ F F' a b):BQ F' F b a:=⟨h.id.symm,h.aA.symm,h.up.symm,h.aB.symm,h.aL.symm,h.gA.symm⟩
theorem eX.trans {N'':List NV} {F'':aC} (h:eX N F N' F') (k:eX N' F' N'' F''):eX N F N'' F'':=by
 refine⟨fun i=>?_,k.len.trans h.len,h.nd,k.nd'⟩;have h1:=h.look i;have h2:=k.look i;generalize bq N i=a at h1;generalize bq N' i=b at h1 h2;generalize bq N'' i=c at h2
 cases h1 with
 |none=>cases h2;exact .none
 |some t=>cases h2 with|some t2=>exact .some (t.trans t2)
theorem eX.symm (h:eX N F N' F'):eX N' F' N F:=by
 refine⟨fun i=>?_,h.len.symm,h.nd',h.nd⟩;have h1:=h.look i;generalize bq N i=a at h1;generalize bq N' i=b at h1
 cases h1 with
 |none=>exact .none
 |some t=>exact .some t.symm
inductive LI (F F':aC):Except Int NV->Except Int NV->Prop
 |error (k:Int):LI F F' (.error k) (.error k)
 |ok {v v':NV}:BQ F F' v v'->LI F F' (.ok v) (.ok v')
theorem xu {v:NV} (h:v.aA=1):bo F v=bp F v:=by unfold bo;rw[if_pos h]
theorem BQ.of {v v':NV} (h:BQ F F' v v') (hk:v.aA=1):bp F' v'=bp F v:=by
 rw[<-xu hk,<-xu (h.aA.trans hk)];exact h.gA
theorem eX.step (h:eX N F N' F') {v v':NV} (t:BQ F F' v v') (p:ByteArray):LI F F' (fR N F v p) (fR N' F' v' p):=by
 unfold fR;rw[t.aA,t.up]
 by_cases hk:v.aA≠1
 ·rw[if_pos hk,if_pos hk];exact .error _
 ·rw[if_neg hk,if_neg hk];have ji:v.aA=1:=by simpa using hk
  split
  ·exact .ok t
  split
  ·exact .ok (h.bW _)
  rw[t.of ji]
  split
  ·exact .error _
  ·exact .ok (h.bW _)
theorem eX.walk (h:eX N F N' F'):∀(l:List ByteArray) {v v':NV},BQ F F' v v'->LI F F' (jk N F v l) (jk N' F' v' l)
 |[],_,_,t=>.ok t
 |p::l,v,v',t=>by
  have h1:=h.step t p;unfold jk;generalize fR N F v p=a at h1;generalize fR N' F' v' p=b at h1
  cases h1 with
  |error k=>exact .error k
  |ok t2=>exact h.walk l t2
theorem eX.find (h:eX N F N' F') (s:ByteArray):LI F F' (bX N F s) (bX N' F' s):=by
 unfold bX
 split
 ·exact .error _
 ·exact h.walk _ (h.bW 1)
theorem eX.file (h:eX N F N' F') (s:ByteArray):LI F F' (jN N F s) (jN N' F' s):=by
 have h1:=h.find s;unfold jN;generalize bX N F s=a at h1;generalize bX N' F' s=b at h1
 cases h1 with
 |error k=>exact .error k
 | @ok v v' t=>
  show LI F F' (if v.aA≠2 then _ else _) (if v'.aA≠2 then _ else _);rw[t.aA]
  split
  ·exact .error _
  ·exact .ok t
structure P3 (F F':aC) (p p':PL):Prop where
 v:BQ F F' p.v p'.v
 aA:p.v.aA=1
 az:p'.az=p.az
 name:p'.name=p.name
inductive Ps (F F':aC):Except Int PL->Except Int PL->Prop
 |error (k:Int):Ps F F' (.error k) (.error k)
 |ok {p p':PL}:P3 F F' p p'->Ps F F' (.ok p) (.ok p')
theorem eX.place (h:eX N F N' F') (s:ByteArray):Ps F F' (dZ N F s) (dZ N' F' s):=by
 unfold dZ
 split
 ·exact .error _
 ·exact .error _
 ·rename_i p l _
  split
  ·exact .error _
  ·have h1:=h.walk ((p::l).take l.length) (h.bW 1);generalize jk N F (T.bW N 1) ((p::l).take l.length)=a at h1;generalize jk N' F' (T.bW N' 1) ((p::l).take l.length)=b at h1
   cases h1 with
   |error k=>exact .error k
   | @ok v v' t=>
    show Ps F F' (if v.aA≠1 then _ else _) (if v'.aA≠1 then _ else _);rw[t.aA]
    split
    ·exact .error _
    ·rename_i hk
     exact .ok ⟨t,by simpa using hk,rfl,rfl⟩
theorem eX.free (h:eX N F N' F') (s:ByteArray):Ps F F' (fU N F s) (fU N' F' s):=by
 have h1:=h.place s;unfold fU;generalize dZ N F s=a at h1;generalize dZ N' F' s=b at h1
 cases h1 with
 |error k=>exact .error k
 | @ok p p' t=>
  show Ps F F' (if (cF (bp F p.v) p.az).isSome then _ else _) (if (cF (bp F' p'.v) p'.az).isSome then _ else _);rw[t.v.of t.aA,t.az]
  split
  ·exact .error _
  ·exact .ok t
inductive VP (F F':aC):Except Int (PL×aG)->Except Int (PL×aG)->Prop
 |error (k:Int):VP F F' (.error k) (.error k)
 |ok {p p':PL} (it:aG):P3 F F' p p'->VP F F' (.ok (p,it)) (.ok (p',it))
theorem eX.taken (h:eX N F N' F') (s:ByteArray):VP F F' (e8 N F s) (e8 N' F' s):=by
 have h1:=h.place s;unfold e8;generalize dZ N F s=a at h1;generalize dZ N' F' s=b at h1
 cases h1 with
 |error k=>exact .error k
 | @ok p p' t=>
  show VP F F' (match cF (bp F p.v) p.az with|none=>_|some it=>_) (match cF (bp F' p'.v) p'.az with|none=>_|some it=>_);rw[t.v.of t.aA,t.az]
  split
  ·exact .error _
  ·exact .ok _ t
theorem eX.within (h:eX N F N' F'):∀(n:Nat) (i o:Int),gG N' n i o=gG N n i o
 | 0,_,_=>rfl
 |n+1,i,o=>by unfold gG;rw[(h.bW i).up,h.within n]
theorem eX.V9 (h:eX N F N' F') (i k:Int):fX N' F' i k=fX N F i k:=by
 have t:=h.bW i;unfold fX;rw[t.aA]
 by_cases hk:(T.bW N i).aA=1
 ·rw[t.of hk]
 ·rw[if_neg (c:=(T.bW N i).aA=1/\0<(bp F (T.bW N i)).length) (fun h=>hk h.1),if_neg (c:=(T.bW N i).aA=1/\0<(bp F' (T.bW N' i)).length) (fun h=>hk h.1)]
theorem eX.put (h:eX N F N' F') {v v':NV} (t:BQ F F' v v'):eX (dH N v) F (dH N' v') F':=by
 refine⟨fun i=>?_,?_,lE h.nd v,lE h.nd' v'⟩
 ·by_cases hi:i=v.id
  ·subst hi;rw[nB,<-t.id,nB];exact .some t
  ·rw[jW hi,jW (by rw[t.id];exact hi)];exact h.look i
 ·rw[nY,nY,t.id,(h.look v.id).isSome,h.len]
theorem eX.del (h:eX N F N' F') (j:Int):eX (lN N j) F (lN N' j) F':=by
 refine⟨fun i=>?_,?_,?_,?_⟩
 ·by_cases hi:i=j
  ·subst hi;rw[nC,nC];exact .none
  ·rw[jX hi,jX hi];exact h.look i
 ·have h1:=sn h.nd j;have h2:=sn h.nd' j;rw[(h.look j).isSome,h.len]at h2;omega
 ·exact h.nd.sublist ((filter_sublist).map _)
 ·exact h.nd'.sublist ((filter_sublist).map _)
theorem eX.unlink (h:eX N F N' F') (j:Int):eX (cm N j) F (cm N' j) F':=by
 have t:=h.bW j;unfold cm;rw[t.aB]
 split
 ·exact h.del j
 ·exact h.put ⟨t.id,t.aA,t.up,rfl,t.aL,by
   have e1:bo F {T.bW N j with aB:=(T.bW N j).aB-1}=bo F (T.bW N j):=rfl;have e2:bo F' {T.bW N' j with aB:=(T.bW N j).aB-1}=bo F' (T.bW N' j):=rfl;rw[e1,e2];exact t.gA⟩
theorem eX.move (h:eX N F N' F') (j:Int) {up up':Int} (hu:up'=up):eX (jG N j up) F (jG N' j up') F':=by
 subst hu;have t:=h.bW j;unfold jG;rw[t.aA]
 split
 ·exact h.put ⟨t.id,t.aA,rfl,t.aB,t.aL,by
   have e1:bo F {T.bW N j with up:=up'}=bo F (T.bW N j):=rfl;have e2:bo F' {T.bW N' j with up:=up'}=bo F' (T.bW N' j):=rfl;rw[e1,e2];exact t.gA⟩
 ·exact h
def Td (N:List NV):Prop:=∀u∈N,∀v∈N,u.aA=1->v.aA=1->u.tb=v.tb->u.id=v.id
theorem DI {N:List NV} (hN:Td N) {F:aC} {p:NV} (hp:p∈N) (hk:p.aA=1) {tb:Nat} (ht:p.tb=some tb) (hb:tb∈F.map (·.1)) (L:List aG) {v:NV} (hv:v∈N) (zx:v.id=p.id->v.tb=p.tb/\v.aA=1):
 bo (gK F tb L) v=if v.id=p.id then L else bo F v:=by
 by_cases e:v.id=p.id
 ·rw[if_pos e];obtain⟨e1,e2⟩:=zx e;rw[xu e2];unfold bp;rw[e1,ht];exact pt F tb L hb
 ·rw[if_neg e];unfold bo
  split
  ·rename_i ll
   unfold bp
   cases hvt:v.tb with
   |none=>rfl
   |some t2=>
    refine fh F tb t2 L fun e2=>e ?_
    subst e2;exact hN v hv p hp ll hk (by rw[hvt,ht])
  ·rfl
theorem eX.tree (h:eX N F N' F') (hN:Td N) (Yi:Td N') {p p':NV} (hp:p∈N) (oL:p'∈N') (hk:p.aA=1) (hi:p'.id=p.id) (MA:p'.aA=1) {tb lr:Nat} (ht:p.tb=some tb) (TT:p'.tb=some lr) (hb:tb∈F.map (·.1)) (MI:lr∈F'.map (·.1)) (L:List aG):
 eX N (gK F tb L) N' (gK F' lr L):=by
 refine⟨fun i=>?_,h.len,h.nd,h.nd'⟩;have h1:=h.look i
 cases hf:bq N i with
 |none=>
  rw[hf]at h1;generalize bq N' i=b at h1
  cases h1
  exact .none
 |some v=>
  rw[hf]at h1
  cases hf':bq N' i with
  |none=>rw[hf']at h1;cases h1
  |some v'=>
   rw[hf']at h1
   cases h1 with
   |some t=>obtain⟨hv,_⟩:=dm hf;obtain⟨IC,_⟩:=dm hf';refine .some ⟨t.id,t.aA,t.up,t.aB,t.aL,?_⟩;rw[DI hN hp hk ht hb L hv (fun e=>by rw[ja h.nd hv hp e];exact⟨rfl,hk⟩),DI Yi oL MA TT MI L IC (fun e=>by rw[ja h.nd' IC oL e];exact⟨rfl,MA⟩),t.id,hi,t.gA]
end
section
variable {N N':List NV} {F F':aC} {ar:Int}
structure VO (N:List NV) (F:aC) (N':List NV) (F':aC) (ar:Int):Prop where
 sim:eX N F N' F'
 fit:Fits N F ar
 fit':Fits N' F' ar
 iq:Td N
 tbs':Td N'
theorem eX.at (h:eX N F N' F') (hN:Td N) (Yi:Td N') {G G':aC} (hs:eX N G N' G') {p p':PL} (hp:bj N F p) (oL:bj N' F' p') (t:P3 F F' p p') (hb:p.tb∈G.map (·.1)) (MI:p'.tb∈G'.map (·.1)) (L:List aG):eX N (gK G p.tb L) N' (gK G' p'.tb L):=
 hs.tree hN Yi hp.xf oL.xf hp.aA t.v.id oL.aA hp.iq.1 oL.iq.1 hb MI L
theorem zw {F:aC} {p:PL} (h:p.v.tb=some p.tb):bp F p.v=aX F p.tb:=by unfold bp;rw[h]
theorem P3.look {p p':PL} (t:P3 F F' p p') (hp:bj N F p) (oL:bj N' F' p'):aX F' p'.tb=aX F p.tb:=by
 rw[<-zw hp.iq.1,<-zw oL.iq.1];exact t.v.of t.aA
theorem eX.twk (h:eX N F N' F') {v v':NV} (hv:v∈N) (IC:v'∈N') (hi:v'.id=v.id):BQ F F' v v':=by
 have h1:=h.look v.id;rw[fZ h.nd hv,<-hi,fZ h.nd' IC]at h1
 cases h1 with
 |some t=>exact t
theorem eX.Wa {G G':aC} {p p':PL} (hs:eX N G N' G') (hp:bj N F p) (oL:bj N' F' p') (t:P3 F F' p p'):aX G' p'.tb=aX G p.tb:=by
 rw[<-zw hp.iq.1,<-zw oL.iq.1];exact(hs.twk hp.xf oL.xf t.v.id).of t.aA
theorem eX.Lj (h:eX N F N' F') (hN:Td N) (Yi:Td N') {G G':aC} (hs:eX N G N' G') {p p':PL} (hp:bj N F p) (oL:bj N' F' p') (t:P3 F F' p p') (hb:p.tb∈G.map (·.1)) (MI:p'.tb∈G'.map (·.1)):eX N (cD G p.tb p.az) N' (cD G' p'.tb p'.az):=by
 unfold cD;rw[t.az,hs.Wa hp oL t];exact h.at hN Yi hs hp oL t hb MI _
theorem eX.putAt (h:eX N F N' F') (hN:Td N) (Yi:Td N') {G G':aC} (hs:eX N G N' G') {p p':PL} (hp:bj N F p) (oL:bj N' F' p') (t:P3 F F' p p') (hb:p.tb∈G.map (·.1)) (MI:p'.tb∈G'.map (·.1)) (it:aG):eX N (gl G p.tb it) N' (gl G' p'.tb it):=by
 unfold gl;rw[hs.Wa hp oL t];exact h.at hN Yi hs hp oL t hb MI _
theorem CO (h:VO N F N' F' ar) (s t:ByteArray):(iY N' F' s t).1=(iY N F s t).1/\eX (iY N F s t).2 F (iY N' F' s t).2 F':=by
 have h1:=h.sim.file s;unfold iY
 split
 ·exact⟨rfl,h.sim⟩
 generalize jN N F s=a at h1;generalize jN N' F' s=b at h1
 cases h1 with
 |error k=>exact⟨rfl,h.sim⟩
 | @ok v v' tw=>refine⟨rfl,h.sim.put ⟨tw.id,tw.aA,tw.up,tw.aB,rfl,?_⟩⟩;have e1:bo F {v with aL:=t}=bo F v:=rfl;have e2:bo F' {v' with aL:=t}=bo F' v':=rfl;rw[e1,e2];exact tw.gA
theorem Gv (h:VO N F N' F' ar) (s t:ByteArray):(jt N' F' s t).1=(jt N F s t).1/\eX (jt N F s t).2.1 (jt N F s t).2.2 (jt N' F' s t).2.1 (jt N' F' s t).2.2:=by
 have h1:=h.sim.file s;have h2:=h.sim.free t;have k1:∀v,jN N F s=.ok v->v∈N/\v.aA=2:=fun v=>ml
 have ZQ:∀v,jN N' F' s=.ok v->v∈N'/\v.aA=2:=fun v=>ml
 have k2:∀p,fU N F t=.ok p->bj N F p:=fun p hp=>(gS h.fit hp).1
 have Rc:∀p,fU N' F' t=.ok p->bj N' F' p:=fun p hp=>(gS h.fit' hp).1
 unfold jt;generalize jN N F s=a at h1 k1;generalize jN N' F' s=b at h1 ZQ
 cases h1 with
 |error k=>exact⟨rfl,h.sim⟩
 | @ok v v' tw=>
  generalize fU N F t=c at h2 k2;generalize fU N' F' t=d at h2 Rc
  cases h2 with
  |error k=>exact⟨rfl,h.sim⟩
  | @ok p p' tp=>have hp:=k2 p rfl;have oL:=Rc p' rfl;refine⟨rfl,?_⟩;show eX (dH N {v with aB:=v.aB+1}) (gl F p.tb ⟨p.az,p.name,v.id⟩) (dH N' {v' with aB:=v'.aB+1}) (gl F' p'.tb ⟨p'.az,p'.name,v'.id⟩);rw[tp.az,tp.name,tw.id,tw.aB];have hs:=h.sim.putAt h.iq h.tbs' h.sim hp oL tp hp.iq.2 oL.iq.2 ⟨p.az,p.name,v.id⟩;have tw2:=hs.twk (k1 v rfl).1 (ZQ v' rfl).1 tw.id;exact hs.put ⟨rfl,tw2.aA,tw2.up,rfl,tw2.aL,tw2.gA⟩
theorem pZ (h:VO N F N' F' ar) (s:ByteArray) (aP:Bool):(dF N' F' s aP).1=(dF N F s aP).1/\eX (dF N F s aP).2.1 (dF N F s aP).2.2 (dF N' F' s aP).2.1 (dF N' F' s aP).2.2:=by
 have h2:=h.sim.taken s;have k2:∀p it,e8 N F s=.ok (p,it)->bj N F p:=fun p it hp=>(gI h.fit hp).1
 have Rc:∀p it,e8 N' F' s=.ok (p,it)->bj N' F' p:=fun p it hp=>(gI h.fit' hp).1
 unfold dF;generalize e8 N F s=c at h2 k2;generalize e8 N' F' s=d at h2 Rc
 cases h2 with
 |error k=>exact⟨rfl,h.sim⟩
 | @ok p p' it tp=>
  have hp:=k2 p it rfl;have oL:=Rc p' it rfl
  show(match fX N' F' it.aN (if aP then 1 else 2)with|some k=>(some k,N',F')|none=>(none,cm N' it.aN,cD F' p'.tb p'.az)).1=(match fX N F it.aN (if aP then 1 else 2)with|some k=>(some k,N,F)|none=>(none,cm N it.aN,cD F p.tb p.az)).1/\eX (match fX N F it.aN (if aP then 1 else 2)with|some k=>(some k,N,F)|none=>(none,cm N it.aN,cD F p.tb p.az)).2.1 (match fX N F it.aN (if aP then 1 else 2)with|some k=>(some k,N,F)|none=>(none,cm N it.aN,cD F p.tb p.az)).2.2 (match fX N' F' it.aN (if aP then 1 else 2)with|some k=>(some k,N',F')|none=>(none,cm N' it.aN,cD F' p'.tb p'.az)).2.1 (match fX N' F' it.aN (if aP then 1 else 2)with|some k=>(some k,N',F')|none=>(none,cm N' it.aN,cD F' p'.tb p'.az)).2.2
  rw[h.sim.V9]
  cases fX N F it.aN (if aP then 1 else 2)with
  |some k=>exact⟨rfl,h.sim⟩
  |none=>exact⟨rfl,(h.sim.Lj h.iq h.tbs' h.sim hp oL tp hp.iq.2 oL.iq.2).unlink it.aN⟩
theorem CP (h:VO N F N' F' ar) {G G':aC} {M M':List NV} (hs:eX N G N' G') (hm:∀{K K':aC},eX N K N' K'->eX M K M' K') {p p' g g':PL} (hp:bj N F p) (oL:bj N' F' p') (tp:P3 F F' p p') (hg:bj N F g) (KS:bj N' F' g') (tg:P3 F F' g g') (hk:G.map (·.1)=F.map (·.1)) (MA:G'.map (·.1)=F'.map (·.1)) (i:Int):
 (kO M' G' p' g' i).1=(kO M G p g i).1/\eX (kO M G p g i).2.1 (kO M G p g i).2.2 (kO M' G' p' g' i).2.1 (kO M' G' p' g' i).2.2:=by
 refine⟨rfl,?_⟩
 show eX (jG M i g.v.id) (gl (cD G p.tb p.az) g.tb ⟨g.az,g.name,i⟩) (jG M' i g'.v.id) (gl (cD G' p'.tb p'.az) g'.tb ⟨g'.az,g'.name,i⟩);rw[tg.az,tg.name];have h1:=h.sim.Lj h.iq h.tbs' hs hp oL tp (by rw[hk];exact hp.iq.2) (by rw[MA];exact oL.iq.2);have h2:=h.sim.putAt h.iq h.tbs' h1 hg KS tg (by unfold cD;rw[cV,hk];exact hg.iq.2) (by unfold cD;rw[cV,MA];exact KS.iq.2) ⟨g.az,g.name,i⟩;exact(hm h2).move i tg.v.id
theorem Qm (h:VO N F N' F' ar) {p p' g g':PL} (hp:bj N F p) (oL:bj N' F' p') (tp:P3 F F' p p') (hg:bj N F g) (KS:bj N' F' g') (tg:P3 F F' g g') (it:aG):
 (ny N' F' p' g' it).1=(ny N F p g it).1/\eX (ny N F p g it).2.1 (ny N F p g it).2.2 (ny N' F' p' g' it).2.1 (ny N' F' p' g' it).2.2:=by
 have ta:=h.sim.bW it.aN;have hm:=CP h h.sim (fun x=>x) hp oL tp hg KS tg rfl rfl it.aN;unfold ny;rw[ta.aA,ta.id,h.sim.len,h.sim.within,tg.v.id,tg.look hg KS,tg.az,tp.v.id,tp.az]
 split
 ·exact⟨rfl,h.sim⟩
 split
 ·exact hm
 ·rename_i o _
  split
  ·exact hm
  split
  ·exact⟨rfl,h.sim⟩
  rw[h.sim.V9]
  split
  ·exact⟨rfl,h.sim⟩
  ·have h1:=h.sim.Lj h.iq h.tbs' h.sim hg KS tg hg.iq.2 KS.iq.2;rw[tg.az]at h1;exact CP h h1 (fun x=>x.unlink o.aN) hp oL tp hg KS tg (by unfold cD;rw[cV]) (by unfold cD;rw[cV]) it.aN
theorem zR (h:VO N F N' F' ar) (s t:ByteArray):(dY N' F' s t).1=(dY N F s t).1/\eX (dY N F s t).2.1 (dY N F s t).2.2 (dY N' F' s t).2.1 (dY N' F' s t).2.2:=by
 have h1:=h.sim.taken s;have h2:=h.sim.place t;have k1:∀p it,e8 N F s=.ok (p,it)->bj N F p:=fun p it hp=>(gI h.fit hp).1
 have ZQ:∀p it,e8 N' F' s=.ok (p,it)->bj N' F' p:=fun p it hp=>(gI h.fit' hp).1
 have k2:∀p,dZ N F t=.ok p->bj N F p:=fun p hp=>jA h.fit hp
 have Rc:∀p,dZ N' F' t=.ok p->bj N' F' p:=fun p hp=>jA h.fit' hp
 unfold dY;generalize e8 N F s=a at h1 k1;generalize e8 N' F' s=b at h1 ZQ
 cases h1 with
 |error k=>exact⟨rfl,h.sim⟩
 | @ok p p' it tp=>
  generalize dZ N F t=c at h2 k2;generalize dZ N' F' t=d at h2 Rc
  cases h2 with
  |error k=>exact⟨rfl,h.sim⟩
  | @ok g g' tg=>exact Qm h (k1 p it rfl) (ZQ p' it rfl) tp (k2 g rfl) (Rc g' rfl) tg it
end
section
variable {N N':List NV} {F F':aC} {ar next':Int} {k:Nat}
def oy (N:List NV) (F:aC) (ar:Int) (N':List NV) (F':aC) (next':Int):Prop:=N'=N/\F'=F/\next'=ar
def wD (N:List NV) (F:aC) (ar:Int) (aP:Bool) (s aL:ByteArray) (o:Option Int) (N':List NV) (F':aC) (next':Int):Prop:=
 match fU N F s with
 |.error k=>o=some k/\oy N F ar N' F' next'
 |.ok p=>if 16<=N.length∨999<ar then o=some 9/\oy N F ar N' F' next' else o=none/\next'=ar+1/\
  if aP then ∃tb,tb∉F.map (·.1)/\N'=dH N ⟨ar,1,p.v.id,1,aL,some tb⟩/\F'=gl ((tb,[])::F) p.tb ⟨p.az,p.name,ar⟩
  else N'=dH N ⟨ar,2,0,1,aL,none⟩/\F'=gl F p.tb ⟨p.az,p.name,ar⟩
def oA (N:List NV) (F:aC) (ar:Int) (a:gC) (o:Option Int) (N':List NV) (F':aC) (next':Int):Prop:=
 if (a.aA.toList==[109,107,100,105,114])=true then wD N F ar true a.s ⟨#[]⟩ o N' F' next'
 else if (a.aA.toList==[99,114,101,97,116,101])=true then(if 20<a.t.size then o=some 2/\oy N F ar N' F' next' else wD N F ar false a.s a.t o N' F' next')
 else if (a.aA.toList==[119,114,105,116,101])=true then o=(iY N F a.s a.t).1/\oy (iY N F a.s a.t).2 F ar N' F' next'
 else if (a.aA.toList==[108,105,110,107])=true then o=(jt N F a.s a.t).1/\oy (jt N F a.s a.t).2.1 (jt N F a.s a.t).2.2 ar N' F' next'
 else if (a.aA.toList==[114,109])=true then o=(dF N F a.s false).1/\oy (dF N F a.s false).2.1 (dF N F a.s false).2.2 ar N' F' next'
 else if (a.aA.toList==[114,109,100,105,114])=true then o=(dF N F a.s true).1/\oy (dF N F a.s true).2.1 (dF N F a.s true).2.2 ar N' F' next'
 else if (a.aA.toList==[109,118])=true then o=(dY N F a.s a.t).1/\oy (dY N F a.s a.t).2.1 (dY N F a.s a.t).2.2 ar N' F' next'
 else o=none/\oy N F ar N' F' next'
theorem Qy {M:List NV} {G:aC} (h:eX N F M G) (hf:Fits N F ar) (hg:Fits M G ar) {tb lr:Nat} (ht:tb∉F.map (·.1)) (TT:lr∉G.map (·.1)):eX N ((tb,[])::F) M ((lr,[])::G):=by
 refine⟨fun i=>?_,h.len,h.nd,h.nd'⟩;have h1:=h.look i
 cases hv:bq N i with
 |none=>
  rw[hv]at h1;generalize bq M i=b at h1
  cases h1
  exact .none
 |some v=>
  rw[hv]at h1
  cases hu:bq M i with
  |none=>rw[hu]at h1;cases h1
  |some u=>
   rw[hu]at h1
   cases h1 with
   |some t=>refine .some ⟨t.id,t.aA,t.up,t.aB,t.aL,?_⟩;rw[s5 (hf.tree v (dm hv).1) ht,s5 (hg.tree u (dm hu).1) TT,t.gA]
theorem L5 {M:List NV} {G:aC} (h:VO N F M G ar) {aP:Bool} {s aL:ByteArray} {o o2:Option Int} {M':List NV} {G':aC} {n2:Int} (h1:wD N F ar aP s aL o N' F' next') (h2:wD M G ar aP s aL o2 M' G' n2):o2=o/\n2=next'/\eX N' F' M' G':=by
 have hs:=h.sim.free s;have k2:∀p,fU N F s=.ok p->bj N F p:=fun p hp=>(gS h.fit hp).1
 have Rc:∀p,fU M G s=.ok p->bj M G p:=fun p hp=>(gS h.fit' hp).1
 unfold wD at h1 h2;generalize fU N F s=c at hs k2 h1;generalize fU M G s=d at hs Rc h2
 cases hs with
 |error k=>obtain⟨rfl,rfl,rfl,rfl⟩:=h1;obtain⟨rfl,rfl,rfl,rfl⟩:=h2;exact⟨rfl,rfl,h.sim⟩
 | @ok p p' tp=>
  have hp:=k2 p rfl;have oL:=Rc p' rfl;simp only at h1 h2;rw[h.sim.len]at h2
  by_cases hc:16<=N.length∨999<ar
  ·rw[if_pos hc]at h1 h2;obtain⟨rfl,rfl,rfl,rfl⟩:=h1;obtain⟨rfl,rfl,rfl,rfl⟩:=h2;exact⟨rfl,rfl,h.sim⟩
  ·rw[if_neg hc]at h1 h2;obtain⟨rfl,rfl,h1⟩:=h1;obtain⟨rfl,rfl,h2⟩:=h2;refine⟨rfl,rfl,?_⟩
   cases aP with
   |true=>
    obtain⟨tb,ht,rfl,rfl⟩:=h1;obtain⟨lr,TT,rfl,rfl⟩:=h2;have e0:=Qy h.sim h.fit h.fit' ht TT;have e1:=h.sim.putAt h.iq h.tbs' e0 hp oL tp (by simp;exact .inr (by simpa using hp.iq.2)) (by simp;exact .inr (by simpa using oL.iq.2)) ⟨p.az,p.name,ar⟩;rw[tp.az,tp.name];refine e1.put ⟨rfl,rfl,tp.v.id,rfl,rfl,?_⟩;have n1:tb≠p.tb:=fun e=>ht (by rw[e];exact hp.iq.2)
    have n2:lr≠p'.tb:=fun e=>TT (by rw[e];exact oL.iq.2)
    show(if (1:Int)=1 then aX (gl ((lr,[])::G) p'.tb _) lr else [])=(if (1:Int)=1 then aX (gl ((tb,[])::F) p.tb _) tb else []);rw[if_pos rfl,if_pos rfl];unfold gl;rw[fh _ _ _ _ n1,fh _ _ _ _ n2,lW,lW]
   |false=>obtain⟨rfl,rfl⟩:=h1;obtain⟨rfl,rfl⟩:=h2;rw[tp.az,tp.name];exact(h.sim.putAt h.iq h.tbs' h.sim hp oL tp hp.iq.2 oL.iq.2 ⟨p.az,p.name,ar⟩).put ⟨rfl,rfl,rfl,rfl,rfl,rfl⟩
theorem D9 {M:List NV} {G:aC} (h:VO N F M G ar) {a:gC} {o o2:Option Int} {M':List NV} {G':aC} {n2:Int} (h1:oA N F ar a o N' F' next') (h2:oA M G ar a o2 M' G' n2):o2=o/\n2=next'/\eX N' F' M' G':=by
 unfold oA at h1 h2
 split at h1
 ·rename_i e;rw[if_pos e]at h2;exact L5 h h1 h2
 rename_i e;rw[if_neg e]at h2
 split at h1
 ·rename_i e
  rw[if_pos e]at h2
  split at h1
  ·rename_i e20
   rw[if_pos e20]at h2;obtain⟨rfl,rfl,rfl,rfl⟩:=h1;obtain⟨rfl,rfl,rfl,rfl⟩:=h2;exact⟨rfl,rfl,h.sim⟩
  ·rename_i e20
   rw[if_neg e20]at h2;exact L5 h h1 h2
 rename_i e;rw[if_neg e]at h2
 split at h1
 ·rename_i e
  rw[if_pos e]at h2;obtain⟨rfl,rfl,rfl,rfl⟩:=h1;obtain⟨rfl,rfl,rfl,rfl⟩:=h2;exact⟨(CO h a.s a.t).1,rfl,(CO h a.s a.t).2⟩
 rename_i e;rw[if_neg e]at h2
 split at h1
 ·rename_i e
  rw[if_pos e]at h2;obtain⟨rfl,rfl,rfl,rfl⟩:=h1;obtain⟨rfl,rfl,rfl,rfl⟩:=h2;exact⟨(Gv h a.s a.t).1,rfl,(Gv h a.s a.t).2⟩
 rename_i e;rw[if_neg e]at h2
 split at h1
 ·rename_i e
  rw[if_pos e]at h2;obtain⟨rfl,rfl,rfl,rfl⟩:=h1;obtain⟨rfl,rfl,rfl,rfl⟩:=h2;exact⟨(pZ h a.s false).1,rfl,(pZ h a.s false).2⟩
 rename_i e;rw[if_neg e]at h2
 split at h1
 ·rename_i e
  rw[if_pos e]at h2;obtain⟨rfl,rfl,rfl,rfl⟩:=h1;obtain⟨rfl,rfl,rfl,rfl⟩:=h2;exact⟨(pZ h a.s true).1,rfl,(pZ h a.s true).2⟩
 rename_i e;rw[if_neg e]at h2
 split at h1
 ·rename_i e
  rw[if_pos e]at h2;obtain⟨rfl,rfl,rfl,rfl⟩:=h1;obtain⟨rfl,rfl,rfl,rfl⟩:=h2;exact⟨(zR h a.s a.t).1,rfl,(zR h a.s a.t).2⟩
 rename_i e;rw[if_neg e]at h2
 obtain⟨rfl,rfl,rfl,rfl⟩:=h1;obtain⟨rfl,rfl,rfl,rfl⟩:=h2;exact⟨rfl,rfl,h.sim⟩
def jy (R:Option Int->List NV->aC->Int->Prop) (w0:World) (fb mb:Nat) (l2:List aI) (k:Nat) (e:Ending) (w':World):Prop:=∃o N' F' next',e=.returned (bH o)/\aJ w0 w' fb mb N' F' next' l2/\Good k N' F' next'/\R o N' F' next'
variable {w0 w:World} {fb mb:Nat} {l2:List aI}
theorem Ih (hR:bF w0) (h:aJ w0 w fb mb N F ar l2) (hG:Good k N F ar) (hk:k<800) (s:ByteArray) (hs:s.size<=4000000000):
 Calls prog 30 #[.pointer (some ⟨fb,0,none⟩),.string s] w fun e w'=>jy (wD N F ar true s ⟨#[]⟩) w0 fb mb l2 (k+1) e w':=by
 refine(Ii w0 w fb mb N F ar l2 hR h hG.fits s hs).mono ?_;intro e w' hE;unfold la at hE
 split at hE
 ·rename_i j hp
  exact⟨some _,N,F,ar,hE.1,hE.2,hG.mono (by omega),by unfold wD;rw[hp];exact⟨rfl,rfl,rfl,rfl⟩⟩
 rename_i p hp
 split at hE
 ·rename_i hc
  exact⟨some 9,N,F,ar,hE.1,hE.2,hG.mono (by omega),by unfold wD;rw[hp];show(if 16<=N.length∨999<ar then _ else _);rw[if_pos hc];exact⟨rfl,rfl,rfl,rfl⟩⟩
 ·rename_i gr
  obtain⟨he,tb,hI⟩:=hE;exact⟨none,_,_,_,he,hI,hG.pP hk (gS hG.fits hp) (by omega) (by omega) (I6 (G:=F) hI),by unfold wD;rw[hp];show(if 16<=N.length∨999<ar then _ else _);rw[if_neg gr];exact⟨rfl,rfl,tb,I6 (G:=F) hI,rfl,rfl⟩⟩
theorem DQ (hR:bF w0) (h:aJ w0 w fb mb N F ar l2) (hG:Good k N F ar) (hk:k<800) (s t:ByteArray) (hs:s.size<=4000000000) (ht:t.size<=4000000000):
 Calls prog 31 #[.pointer (some ⟨fb,0,none⟩),.string s,.string t] w fun e w'=>jy (fun o N' F' next'=>if 20<t.size then o=some 2/\oy N F ar N' F' next' else wD N F ar false s t o N' F' next') w0 fb mb l2 (k+1) e w':=by
 refine(FC w0 w fb mb N F ar l2 hR h hG.fits s t hs ht).mono ?_;rintro e w' (⟨h0,h1,h2⟩|⟨T9,hE⟩)
 ·exact⟨some 2,N,F,ar,h1,h2,hG.mono (by omega),by show(if 20<t.size then _ else _);rw[if_pos h0];exact⟨rfl,rfl,rfl,rfl⟩⟩
 have hn:¬20<t.size:=by omega
 unfold nM at hE
 split at hE
 ·rename_i j hp
  exact⟨some _,N,F,ar,hE.1,hE.2,hG.mono (by omega),by show(if 20<t.size then _ else _);rw[if_neg hn];unfold wD;rw[hp];exact⟨rfl,rfl,rfl,rfl⟩⟩
 rename_i p hp
 split at hE
 ·rename_i hc
  exact⟨some 9,N,F,ar,hE.1,hE.2,hG.mono (by omega),by show(if 20<t.size then _ else _);rw[if_neg hn];unfold wD;rw[hp];show(if 16<=N.length∨999<ar then _ else _);rw[if_pos hc];exact⟨rfl,rfl,rfl,rfl⟩⟩
 ·rename_i gr
  exact⟨none,_,_,_,hE.1,hE.2,⟨hG.goo.FR hk (gS hG.fits hp).1 (by omega) (by omega) _,hG.whole.FR (gS hG.fits hp).1 (gS hG.fits hp).2 T9⟩,by show(if 20<t.size then _ else _);rw[if_neg hn];unfold wD;rw[hp];show(if 16<=N.length∨999<ar then _ else _);rw[if_neg gr];exact⟨rfl,rfl,rfl,rfl⟩⟩
theorem Gp (hR:bF w0) (h:aJ w0 w fb mb N F ar l2) (hG:Good k N F ar) (hk:k<800) (s t:ByteArray) (hs:s.size<=4000000000) (ht:t.size<=4000000000):
 Calls prog 32 #[.pointer (some ⟨fb,0,none⟩),.string s,.string t] w fun e w'=>jy (fun o N' F' next'=>o=(iY N F s t).1/\oy (iY N F s t).2 F ar N' F' next') w0 fb mb l2 (k+1) e w':=
 (l5 w0 w fb mb N F ar l2 hR h hG.fits s t hs ht).mono fun e w' hE=>⟨_,_,_,_,hE.1,hE.2,⟨(hG.goo.write s t).mono (by omega),hG.whole.write s t⟩,rfl,rfl,rfl,rfl⟩
theorem Mi (hR:bF w0) (h:aJ w0 w fb mb N F ar l2) (hG:Good k N F ar) (hk:k<800) (s t:ByteArray) (hs:s.size<=4000000000) (ht:t.size<=4000000000):
 Calls prog 33 #[.pointer (some ⟨fb,0,none⟩),.string s,.string t] w fun e w'=>jy (fun o N' F' next'=>o=(jt N F s t).1/\oy (jt N F s t).2.1 (jt N F s t).2.2 ar N' F' next') w0 fb mb l2 (k+1) e w':=
 (Kz w0 w fb mb N F ar l2 hR h hG.fits (hG.vq (by omega)) s t hs ht).mono fun e w' hE=>⟨_,_,_,_,hE.1,hE.2,⟨hG.goo.link hk s t,hG.whole.link hG.fits s t⟩,rfl,rfl,rfl,rfl⟩
theorem sK (hR:bF w0) (h:aJ w0 w fb mb N F ar l2) (hG:Good k N F ar) (hk:k<800) (s:ByteArray) (hs:s.size<=4000000000) (aP:Bool):
 Calls prog 34 #[.pointer (some ⟨fb,0,none⟩),.string s,.bool aP] w fun e w'=>jy (fun o N' F' next'=>o=(dF N F s aP).1/\oy (dF N F s aP).2.1 (dF N F s aP).2.2 ar N' F' next') w0 fb mb l2 (k+1) e w':=
 (Eo w0 w fb mb N F ar l2 hR h hG.fits (hG.vq (by omega)) s hs aP).mono fun e w' hE=>⟨_,_,_,_,hE.1,hE.2,⟨(hG.goo.remove s aP).mono (by omega),hG.whole.remove hG.fits s aP⟩,rfl,rfl,rfl,rfl⟩
theorem C2 (hR:bF w0) (h:aJ w0 w fb mb N F ar l2) (hG:Good k N F ar) (hk:k<800) (s t:ByteArray) (hs:s.size<=4000000000) (ht:t.size<=4000000000):
 Calls prog 35 #[.pointer (some ⟨fb,0,none⟩),.string s,.string t] w fun e w'=>jy (fun o N' F' next'=>o=(dY N F s t).1/\oy (dY N F s t).2.1 (dY N F s t).2.2 ar N' F' next') w0 fb mb l2 (k+1) e w':=
 (En w0 w fb mb N F ar l2 hR h hG.fits (hG.vq (by omega)) s t hs ht).mono fun e w' hE=>⟨_,_,_,_,hE.1,hE.2,⟨hG.goo.rename hk s t,hG.whole.rename hG.fits s t⟩,rfl,rfl,rfl,rfl⟩
end
end Go.Proofs.YtphcnmlbieokoaaGreatDoor.T
