import Derived.Test.YtphcnmlbieokoaaGreatDoorC6
set_option maxRecDepth 100000
set_option maxHeartbeats 16000000
set_option linter.unusedVariables false
set_option linter.unusedSimpArgs false
namespace Go.Proofs.YtphcnmlbieokoaaGreatDoor.T
open Go.RowKit Go.Lib List Go.Proofs.Tryz
def iL (l:List aG):List Value:=l.flatMap fun x=>[.string x.name,.int .i64 x.aN]
theorem Lb (l:List aG) (x:aG):iL (l++[x])=iL l++[.string x.name,.int .i64 x.aN]:=by simp[iL]
theorem Fp (l:List aG):(iL l).length=l.length*2:=by
 induction l with
 |nil=>rfl
 |cons x l ih=>simp[iL]at ih ⊢;omega
theorem Rh:(prog.info? 100).map (fun i=>(i.zero,i.size,i.bytes))=some (some (.agg #[.string ⟨#[]⟩,.int .i64 0]),2,24):=by kernel_rfl
def kL (v:Value) (l:List aG):aI:=.row v 100 2 l.length (iL l)
def SA (ob nb:Nat) (aF:Int) (acc:List aG) (rs:List aI):Prop:=∃v,rs=[.cell ob 97 [v],.cell nb 3 [.int .i64 aF],kL v acc]
theorem cell_two_new (w:World) (a b:Value) (t:TypeId):∀j u,[a,b][j]? = some u->(w.alloc (.cells #[a,b] t)).cell? ((⟨w.heap.size,0,none⟩:Addr).add j)=some u:=by
 intro j u hj;rw[Addr.add_lit,Nat.zero_add,cell_of_row _ _ j _ t (0,0) (heap_alloc_new w _)]
 simpa using hj
theorem adv (au:Nat) (w0:World) (K0:Nat->Nat) (ob nb:Nat) (aF:Int) (hm:aF<=9223372036854775807):R5 au w0 K0 132 #[.pointer (some ⟨ob,0,none⟩),.pointer (some ⟨nb,0,none⟩)] (SA ob nb aF) (fun a=>decide ((a.length:Int)<aF)):=by
 intro w acc rs it l2 hS hl H
 show Calls prog 132 #[.agg #[.string it.name,.int .i64 it.aN],.pointer (some ⟨ob,0,none⟩),.pointer (some ⟨nb,0,none⟩)] w _;obtain⟨v,rfl⟩:=hS;obtain⟨i0,hi,hz0,fE,fD⟩:=info_parts Rh;obtain⟨n,hn⟩:=aa acc.length;have q0:w.cell? ⟨ob,0,none⟩=some v:=H.cellAt (t:=97) (vs:=[v]) (by simp) rfl;have q1:w.cell? ⟨nb,0,none⟩=some (.int .i64 aF):=H.cellAt (t:=3) (vs:=[.int .i64 aF]) (by simp) rfl;have r0:w.ownsRow au 100 2 v n (iL acc):=by rw[<-hn];exact H.rowAt (by simp[kL])
 have mg:au<=w.heap.size:=H.low (b:=ob) (t:=97) (vs:=[v]) (by simp);have oQ:∀o,(w.alloc o).cell? ⟨ob,0,none⟩=some v:=fun o=>Lib.cell?_alloc_some _ q0
 have H1:=(H.alloc (.cells #[.string it.name,.int .i64 it.aN] 100)).alloc (.cells #[.string it.name,.int .i64 it.aN] 100);have r1:((w.alloc (.cells #[.string it.name,.int .i64 it.aN] 100)).alloc (.cells #[.string it.name,.int .i64 it.aN] 100)).ownsRow au 100 2 v n (iL acc):=(r0.alloc _).alloc _;rw[hn]at hl;have Hr1:=aq r1;have yN:=aq H1;have Hn:=aq hn;clear H H1 r0 r1 hn;go_enter func132,ntmps132
 go_wp2_with (at_builtin;refine wpList_append_own_at _ rfl _ _ 97 rfl au 100 i0 (.agg #[.string ⟨#[]⟩,.int .i64 0]) 2 24 underlying97 hi hz0 fE fD rfl (by decide) _ _ _ rfl (an Hr1) ⟨w.heap.size+1,0,none⟩ 1 1 [.string it.name,.int .i64 it.aN] rfl rfl (by have:=cell_two_new (w.alloc (.cells #[.string it.name,.int .i64 it.aN] 100)) (.string it.name) (.int .i64 it.aN) 100;simpa using this) (fun y hy=>by simp at hy;rcases hy with rfl|rfl<;>rfl) (by unfold maxLen;omega) (by omega) (by simp;omega) ?_;intro v4 w4 dS cr ig gQ;obtain⟨g4,cap4,rfl,WJ,hm4⟩:=aZ dS (by omega);have H5:=(an yN).grow [.cell ob 97 [v],.cell nb 3 [.int .i64 aF]] cr dS (by rcases gQ with h|h;exact .inl h;exact .inr ⟨_,h,Nat.le_refl _⟩);have k0:w4.cell? ⟨ob,0,none⟩=some v:=H5.cellAt (t:=97) (vs:=[v]) (by simp) rfl;have k1:w4.frozen? ⟨ob,0,none⟩=false:=H5.frozenAt (t:=97) (vs:=[v]) (by simp) 0;have k2:w4.cell? ⟨nb,0,none⟩=some (.int .i64 aF):=H5.cellAt (t:=3) (vs:=[.int .i64 aF]) (by simp) rfl;have dr:¬(nb=ob):=(fun e=>by have h5:=H5.uniq ob;simp only[cons_append,nil_append,ax,bM,e,bx]at h5;omega);have H6:=aq (H5.store [] 0 (.slice (some ⟨g4,0,none⟩) (n+1) cap4) _ rfl);clear H5 dS cr ig gQ)
 go_ret;refine⟨[.cell ob 97 [.slice (some ⟨g4,0,none⟩) (n+1) cap4],.cell nb 3 [.int .i64 aF],kL (.slice (some ⟨g4,0,none⟩) (n+1) cap4) (acc++[it])],?_,⟨_,rfl⟩,?_⟩
 ·show Ending.returned (Value.bool (decide ((n:Int)+1<aF)))=Ending.returned (Value.bool (decide (((acc++[it]).length:Int)<aF)));rw[length_append,an Hn];rfl
 ·have h7:=an H6;unfold kL;rw[length_append,an Hn,Lb];exact h7
theorem CR (m:Nat) (hm:0<m):∀(xs acc:List aG),acc.length<m->(tell (fun a=>decide ((a.length:Int)<(m:Int))) acc xs).1=acc++xs.take (m-acc.length)
 |[],acc,_=>by rw[zX];simp
 |x::xs,acc,h=>by
  rw[kh];obtain⟨d,hd⟩:∃d,m-acc.length=d+1:=⟨m-acc.length-1,by omega⟩;rw[hd,take_succ_cons]
  by_cases h1:acc.length+1<m
  ·rw[if_pos (by simp;omega),CR m hm xs (acc++[x]) (by simp;omega)];simp only[length_append,length_cons,length_nil,append_assoc,cons_append,nil_append];rw[show m-(acc.length+(0+1))=d by omega]
  ·rw[if_neg (by simp;omega)];obtain rfl:d=0:=by omega
   simp
def TL (au:Nat) (w0:World) (K0:Nat->Nat) (tb:Nat) (L out:List aG) (l2:List aI) (e:Ending) (w':World):Prop:=
 ∃v,e=.returned v/\fY au w0 K0 w' tb L (kL v out::l2)
theorem Jz (au:Nat) (w0:World) (K0:Nat->Nat) (w:World) (tb:Nat) (L:List aG) (l2:List aI) (az:ByteArray) (aF:Int) (Dq:-9223372036854775808<=aF) (UW:aF<=9223372036854775807) (HT:fY au w0 K0 w tb L l2) (hl:L.length<=1000):
 Calls prog 89 #[.pointer (some ⟨tb,0,none⟩),.string az,.int .i64 aF] w fun e w'=>TL au w0 K0 tb L ((bC L az).take aF.toNat) l2 e w':=by
 obtain⟨hs,h,k,hL,hc,kE,H⟩:=HT;have mg:au<=w.heap.size:=H.low (b:=tb) (t:=192) (vs:=[bK k.b]) (by simp);have H1:=H.aY mg 3 [.int .i64 aF]
 by_cases hm:aF<1
 ·have yN:=aq H1;have HL:=aq hL;have HS:=aq hs;have Ts:=aq kE;clear H H1 hL hs kE;go_enter func89,ntmps89;go_wp2_with fail;go_ret;refine⟨.slice none 0 0,rfl,an HS,h,k,an HL,hc,an Ts,?_⟩;have h2:=((an yN).aD []).fJ 100 2;rw[show aF.toNat=0 by omega];exact(h2.front [_,_]).front [_,_]
 ·have H2:=H1.aY (w:=w.alloc _) (by simp;omega) 97 [.slice none 0 0];have H3:=H2.fJ 100 2
  have e1:=ZE au w0 K0 132 #[.pointer (some ⟨w.heap.size+1,0,none⟩),.pointer (some ⟨w.heap.size,0,none⟩)] (SA (w.heap.size+1) w.heap.size aF) (fun a=>decide ((a.length:Int)<aF)) az (fun _ _=>by kernel_rfl) (adv au w0 K0 _ _ aF UW) h _ k [] [.cell (w.heap.size+1) 97 [.slice none 0 0],.cell w.heap.size 3 [.int .i64 aF],kL (.slice none 0 0) []] (.cell tb 192 [bK k.b]::l2) ⟨_,rfl⟩ (by rw[hL];simp;omega) (H3.conv (fun x=>by simp only[kL,ay,ax,fx,bM,dD,eV,World.size_alloc];omega) (fun r hr=>H3.sat r (by
   simp only[cons_append,nil_append,mem_cons,World.size_alloc,kL]at hr ⊢
   rcases hr with h|h|h|h|h|h
   ·exact .inr (.inl h)
   ·exact .inr (.inr (.inl h))
   ·exact .inl h
   ·exact .inr (.inr (.inr (.inr (.inl h))))
   ·exact .inr (.inr (.inr (.inl h)))
   ·exact .inr (.inr (.inr (.inr (.inr h))))))) (by rw[hL];exact hs) hc
  have q0:w.cell? ⟨tb,0,none⟩=some (.pointer (some ⟨k.b,0,none⟩)):=H.cellAt (t:=192) (vs:=[bK k.b]) (by simp) rfl;have oQ:∀o,(w.alloc o).cell? ⟨tb,0,none⟩=some (.pointer (some ⟨k.b,0,none⟩)):=fun o=>Lib.cell?_alloc_some _ q0
  have Yd:∀o o',((w.alloc o).alloc o').cell? ⟨tb,0,none⟩=some (.pointer (some ⟨k.b,0,none⟩)):=fun o o'=>Lib.cell?_alloc_some _ (oQ o)
  have E1:=aq e1;have HL:=aq hL;have HS:=aq hs;have Ts:=aq kE;clear e1 H H1 H2 H3 hL hs kE;go_enter func89,ntmps89;go_wp2_with fail;refine(an E1).mono ?_;rintro e w2 ⟨rs',rfl,⟨v,hv⟩,H4⟩;obtain⟨m,qZ⟩:∃m:Nat,aF=(m:Int):=⟨aF.toNat,by omega⟩
  have ht:(tell (fun a=>decide ((a.length:Int)<aF)) [] (bC k.L az)).1=(bC L az).take aF.toNat:=by rw[qZ,CR m (by omega) _ [] (by simp;omega),an HL,Int.toNat_natCast];simp
  subst hv;rw[ht]at H4;have q1:w2.cell? ⟨w.heap.size+1,0,none⟩=some v:=H4.cellAt (t:=97) (vs:=[v]) (by simp) rfl;have ZA:=aq H4;clear H4 ht E1 q0 oQ Yd qZ;go_wp2_with fail;go_ret;refine⟨v,rfl,an HS,h,k,an HL,hc,an Ts,?_⟩;have h5:=(((an ZA).aD []).aD []);exact(h5.front [_]).front [_,_]
section
section
variable {au:Nat} {w0 w:World} {K0:Nat->Nat}
def Tl (au:Nat) (w0:World) (K0:Nat->Nat) (aQ:List aG) (rs:List aI) (e:Ending) (w':World):Prop:=
 ∃v,e=.returned v/\aw au w0 K0 w' (aO v aQ::rs)
theorem CB {rs:List aI} (H:aw au w0 K0 w rs) {v:Value} {aQ:List aG} (hm:aO v aQ∈rs) (hb:au<=w.heap.size) (hl:aQ.length<=100):
 Calls prog 165 #[v] w fun e w'=>Tl au w0 K0 aQ rs e w':=by
 have hr:w.ownsRow au 238 3 v aQ.length (flat aQ):=H.rowAt hm
 rcases hr.2 with⟨hv,hn⟩|⟨g,aU,cur,hv,_⟩
 ·have h0:aQ=[]:=eq_nil_of_length_eq_zero hn;subst hv h0;refine(uN w).mono ?_;rintro e w' ⟨rfl,rfl⟩;exact⟨_,rfl,H.fJ 238 3⟩
 ·subst hv;refine(vR au g 0 aQ.length aU (flat aQ) w (by rw[dU]) hl hb (fun j u hu=>?_) (fM _)).mono ?_
  ·have hj:=(List.getElem?_eq_some_iff.1 hu).1;rw[dU]at hj;rw[Nat.zero_add,hr.cellAt j (by omega)];exact hu
  ·rintro e w' ⟨v',rfl,uA,ha,uG⟩;exact⟨v',rfl,H.newRow uG uA ha⟩
theorem aw.Xx {rs:List aI} (H:aw au w0 K0 w rs) (h:Nat):aw au w0 K0 w (.subs h []::rs):=
 H.conv (fun x=>by simp only[ax,dI];simp[owns]) (fun r hr=>by
  rcases mem_cons.1 hr with rfl|h
  ·exact fun x hx=>by simp at hx
  ·exact H.sat r h)
theorem yZ (l1:List aI) {v:Value} {a:List bQ} {l2:List aI} {vb:Nat} {m:bQ} (H:aw au w0 K0 w (.cell vb 190 [bK m.b]::(l1++bg v a::l2))) (hn:a.length<=90) (ty:TypeId):
 ∃v' w',(Builtin.append_ #[239,239] ty #[v,.slice (some ⟨vb,0,none⟩) 1 1]).run prog w=.ok v' w'/\aw au w0 K0 w' (l1++bg v' (a++[m])::l2):=by
 obtain⟨i0,hi,hz0,fE,fD⟩:=info_parts xe;have hv:w.ownsRow au 190 1 v a.length (a.map fun y=>bK y.b):=H.rowAt (by simp[bg])
 obtain⟨v',w',hr,ho,hg,_,ha⟩:=run_append_own_at (P:=prog) w au 239 ty 190 i0 _ 1 8 underlying239 hi hz0 fE fD rfl (by decide) v a.length _ hv ⟨vb,0,none⟩ 1 1 [bK m.b] rfl (fun j u hj=>by
  rw[Addr.add_lit,Nat.zero_add];exact H.cellAt (t:=190) (vs:=[bK m.b]) (by simp) hj) (fun u hu=>by simp at hu;subst hu;rfl) (by unfold maxLen;omega) (by omega) (H.low (b:=vb) (t:=190) (vs:=[bK m.b]) (by simp))
 refine⟨v',w',hr,?_⟩;have e1:(a.map fun y=>bK y.b)++[bK m.b]=(a++[m]).map fun y=>bK y.b:=by simp
 have e2:a.length+1=(a++[m]).length:=by simp
 rw[e1,e2]at ho;exact(H.aD []).grow l1 hg ho (ha.imp id fun h=>⟨_,h,Nat.le_refl _⟩)
end
theorem GC {P:Program} {ops:Array Oper} {o:Oper} {a:Act} {w:World} {K:Act->World->Prop} {Q:Exit->Act->World->Prop} {E:Prop}
 (hg:o.guard=none) (f:FuncId) {fn:Func} (MD:P.funcs[f]? = some fn) (Mu:¬(fn.name = "runtime.NumGoroutine")) (A8:¬(fn.body=none)) (x:Operand) (t:TypeId) (JX:o.op=Op.call {callee:=Callee.value (Operand.func f),args:=#[x],argTypes:=#[t]})
 (v:Value) (hx:a.eval x=v) {R:Ending->World->Prop} (hc:Calls P f #[v] w R) (hK:∀e w',R e w'->∃u,e=.returned u/\K (a.put o.dst u) w'):
 if Region.wanted o (yielded ops a.tmps)=true then Oper.wp P o a w K Q else E:=by
 have hw:Region.wanted o (yielded ops a.tmps)=true:=by simp[Region.wanted,hg]
 rw[if_pos hw];unfold Oper.wp
 have hr:(execOp a.eval o).run P w=.ok (.enter f #[v]) w:=by simp[execOp,JX,resolve,invoke,hx,Act.eval,Deferred.ofValue,callFunc,Result.andThen,MD,Mu,A8];rw[<-hx];cases x<;>simp[Act.eval,Array.getD_eq_getD_getElem?]
 rw[hr,Oper.upon_enter];refine hc.mono ?_;intro e w' hr;obtain⟨u,rfl,hk⟩:=hK e w' hr;exact hk
theorem adB:¬(Tryz.f112.name = "runtime.NumGoroutine"):=by decide
theorem ae6:¬(Tryz.f112.body=none):=by intro h;cases h
theorem aw.Ys {au:Nat} {w0 w:World} {K0:Nat->Nat} {h:Nat} {kk iC:bQ} {A B C D E F:aI} {yT b8 cq:List bQ} {l2:List aI} (H:aw au w0 K0 w (.sub h iC::.sub h kk::A::B::C::.subs h yT::D::E::F::.subs h (b8++cq)::l2)):aw au w0 K0 w (A::B::C::.subs h (yT++[iC])::D::E::F::.subs h (b8++kk::cq)::l2):=by
 have s1:Sub au w h iC:=H.sat (.sub h iC) (by simp);have s2:Sub au w h kk:=H.sat (.sub h kk) (by simp);have s3:∀x∈yT,Sub au w h x:=H.sat (.subs h yT) (by simp);have s4:∀x∈b8++cq,Sub au w h x:=H.sat (.subs h (b8++cq)) (by simp);refine H.conv (fun x=>?_) (fun r hr=>?_)
 ·simp only[ax,eV,dI,jr,iQ,pg];omega
 ·simp only[mem_cons]at hr
  rcases hr with rfl|rfl|rfl|rfl|rfl|rfl|rfl|rfl|hr
  ·exact H.sat _ (by simp)
  ·exact H.sat _ (by simp)
  ·exact H.sat _ (by simp)
  ·intro x hx;simp at hx
   rcases hx with h1|rfl
   ·exact s3 x h1
   ·exact s1
  ·exact H.sat _ (by simp)
  ·exact H.sat _ (by simp)
  ·exact H.sat _ (by simp)
  ·intro x hx;simp at hx
   rcases hx with h1|rfl|h1
   ·exact s4 x (by simp[h1])
   ·exact s2
   ·exact s4 x (by simp[h1])
  ·exact H.sat r (by simp[hr])
def F6 (au:Nat) (w0:World) (K0:Nat->Nat) (h:Nat) (k:bQ) (l2:List aI) (e:Ending) (w':World):Prop:=
 ∃k':bQ,e=.returned (.pointer (some ⟨k'.b,0,none⟩))/\k'.c=k.c/\k'.L=k.L/\aw au w0 K0 w' (.sub h k'::.sub h k::l2)
def B4 (h:Nat):Prop:=∀(au:Nat) (w0:World) (K0:Nat->Nat) (w:World) (k:bQ) (l2:List aI),aw au w0 K0 w (.sub h k::l2)->k.c<=3->
 Calls prog 112 #[.pointer (some ⟨k.b,0,none⟩)] w fun e w'=>F6 au w0 K0 h k l2 e w'
theorem yD (h:Nat) (ih:0<h->B4 (h-1)):B4 h:=by
 intro au w0 K0 w k l2 H hc;obtain⟨aQ,aM,v0,v1,kD,hL,gX,fQ,ft,H1⟩:=aw.Hh [] H;simp only[nil_append]at H1;have q0:w.cell? ⟨k.b,0,none⟩=some v0:=H1.cellAt (t:=241) (vs:=[v0,v1]) (by simp[aK]) rfl;have mg:au<=w.heap.size:=H1.low (b:=k.b) (t:=241) (vs:=[v0,v1]) (by simp[aK]);obtain⟨N,hN⟩:=aa aM.length
 have hN4:N<=4:=by
  rcases gX with⟨_,h0⟩|⟨_,h0⟩
  ·rw[<-hN,h0];simp
  ·omega
 have r1:w.ownsRow au 190 1 v1 N (aM.map fun y=>bK y.b):=by rw[<-hN];exact H1.rowAt (by simp[bg])
 obtain⟨p1,cap1,mv⟩:=nX r1;subst mv;have e1:=CB H1 (v:=v0) (aQ:=aQ) (by simp) mg (by omega);have E1:=aq e1;have IH:=aq ih;have oZ:=aq kD;have HL:=aq hL;have BW:=aq gX;have lq:=aq fQ;have nI:=aq ft;have HN:=aq hN;clear e1 ih kD hL gX fQ ft hN r1 H H1;go_enter func112,ntmps112;go_wp2_with fail;refine(an E1).mono ?_;rintro e w2 ⟨v0',rfl,H2⟩;obtain⟨p0,c0,KJ⟩:=nX (H2.rowAt (v:=v0') (e:=238) (k:=3) (n:=aQ.length) (xs:=flat aQ) (by simp[aO]));subst KJ;have tt:au<=w2.heap.size:=H2.low (b:=k.b) (t:=241) (vs:=[v0,.slice p1 N cap1]) (by simp[aK])
 have H3:=H2.aY tt 241 [.slice p0 aQ.length c0,.slice none 0 0];have c1:∀o,(w2.alloc o).cell? ⟨k.b,1,none⟩=some (.slice p1 N cap1):=fun o=>(H2.alloc o).cellAt (t:=241) (vs:=[v0,.slice p1 N cap1]) (by simp[aK]) rfl
 obtain⟨nb,Gd⟩:=aa w2.heap.size
 have H4:aw au w0 K0 (w2.alloc (.cells #[.slice p0 aQ.length c0,.slice none 0 0] 241)) (aK nb (.slice p0 aQ.length c0) (.slice none 0 0)::aO (.slice p0 aQ.length c0) aQ::bg (.slice none 0 0) []::.subs (h-1) []::aK k.b v0 (.slice p1 N cap1)::aO v0 aQ::bg (.slice p1 N cap1) aM::.subs (h-1) aM::l2):=by rw[<-Gd];exact(((H3.Xx (h-1)).fJ 190 1).front [_,_,_]).front [_,_,_]
 have ZA:=aq H4;clear H2 H3 H4 E1 q0;go_wp2_with fail
 go_loopg [18] (N+1) (fun g vi wr=>∃(i:Nat) (p':Option Addr) (c':Nat) (yT:List bQ),N-i<g/\i<=N/\vi=.int .i64 i/\Hid (yT.length=i/\yT.map bQ.L=(aM.take i).map bQ.L/\∀x∈yT,Fit x)/\Hid (aw au w0 K0 wr (aK nb (.slice p0 aQ.length c0) (.slice p' i c')::aO (.slice p0 aQ.length c0) aQ::bg (.slice p' i c') yT::.subs (h-1) yT::aK k.b v0 (.slice p1 N cap1)::aO v0 aQ::bg (.slice p1 N cap1) aM::.subs (h-1) aM::l2)))
 case atStart=>exact⟨0,none,0,[],by omega,by omega,rfl,⟨rfl,rfl,fun x hx=>by simp at hx⟩,ZA⟩
 case round=>
  obtain⟨i,p',c',yT,hg,hi,rfl,HK,HR⟩:=hrel
  by_cases gY:i<N
  ·have hz:(i:Int)<(N:Int):=by omega
   have hhp:0<h:=by
    rcases an BW with⟨_,h0⟩|⟨h0,_⟩
    ·have:=an HN;rw[h0]at this;simp at this;omega
    ·exact h0
   obtain⟨kk,nS⟩:∃kk,aM[i]? = some kk:=⟨_,getElem?_eq_getElem (by have:=an HN;omega)⟩
   have uy:aM=aM.take i++kk::aM.drop (i+1):=by obtain⟨eO,rfl⟩:=List.getElem?_eq_some_iff.1 nS;rw[<-drop_eq_getElem_cons eO,take_append_drop]
   obtain⟨b8,hks1⟩:∃a,aM.take i=a:=⟨_,rfl⟩;obtain⟨cq,hks2⟩:∃a,aM.drop (i+1)=a:=⟨_,rfl⟩;rw[hks1,hks2]at uy;have r1:wr.ownsRow au 190 1 (.slice p1 N cap1) N (aM.map fun y=>bK y.b):=by have:=(an HR).rowAt (v:=.slice p1 N cap1) (e:=190) (k:=1) (n:=aM.length) (xs:=aM.map fun y=>bK y.b) (by simp[bg]);rwa [an HN]at this
   obtain⟨g1,cap',e1,_⟩:=aZ r1 (by omega);injection e1 with e1 _ e2;subst e1 e2;have pc:=fI r1 nS;have q1:wr.cell? ⟨nb,1,none⟩=some (.slice p' i c'):=(an HR).cellAt (t:=241) (vs:=[.slice p0 aQ.length c0,.slice p' i c']) (by simp[aK]) rfl;have Ce:Fit kk:=an lq kk (mem_of_getElem? nS);have H5:aw au w0 K0 wr ([aK nb (.slice p0 aQ.length c0) (.slice p' i c'),aO (.slice p0 aQ.length c0) aQ,bg (.slice p' i c') yT,.subs (h-1) yT,aK k.b v0 (.slice (some ⟨g1,0,none⟩) N cap1),aO v0 aQ,bg (.slice (some ⟨g1,0,none⟩) N cap1) aM]++.subs (h-1) (b8++kk::cq)::l2):=by rw[<-uy];exact an HR
   have H6:=(H5.take _).front _;have eC:∀wx,aw au w0 K0 wx (.sub (h-1) kk::([aK nb (.slice p0 aQ.length c0) (.slice p' i c'),aO (.slice p0 aQ.length c0) aQ,bg (.slice p' i c') yT,.subs (h-1) yT,aK k.b v0 (.slice (some ⟨g1,0,none⟩) N cap1),aO v0 aQ,bg (.slice (some ⟨g1,0,none⟩) N cap1) aM]++.subs (h-1) (b8++cq)::l2))->Calls prog 112 #[.pointer (some ⟨kk.b,0,none⟩)] wx fun e w'=>F6 au w0 K0 (h-1) kk ([aK nb (.slice p0 aQ.length c0) (.slice p' i c'),aO (.slice p0 aQ.length c0) aQ,bg (.slice p' i c') yT,.subs (h-1) yT,aK k.b v0 (.slice (some ⟨g1,0,none⟩) N cap1),aO v0 aQ,bg (.slice (some ⟨g1,0,none⟩) N cap1) aM]++.subs (h-1) (b8++cq)::l2) e w':=fun wx hx=>an IH hhp au w0 K0 wx kk _ hx Ce.2
   have eA:∀(w5:World) (iC:bQ),aw au w0 K0 w5 (.sub (h-1) iC::.sub (h-1) kk::([aK nb (.slice p0 aQ.length c0) (.slice p' i c'),aO (.slice p0 aQ.length c0) aQ,bg (.slice p' i c') yT,.subs (h-1) yT,aK k.b v0 (.slice (some ⟨g1,0,none⟩) N cap1),aO v0 aQ,bg (.slice (some ⟨g1,0,none⟩) N cap1) aM]++.subs (h-1) (b8++cq)::l2))->∃p6 c6 w6,(Builtin.append_ #[239,239] 239 #[.slice p' i c',.slice (some ⟨w5.heap.size,0,none⟩) 1 1]).run prog (w5.alloc (.cells #[.pointer (some ⟨iC.b,0,none⟩)] 190))=.ok (.slice p6 (i+1) c6) w6/\aw au w0 K0 w6 ([.sub (h-1) iC,.sub (h-1) kk,aK nb (.slice p0 aQ.length c0) (.slice p' i c'),aO (.slice p0 aQ.length c0) aQ]++bg (.slice p6 (i+1) c6) (yT++[iC])::[.subs (h-1) yT,aK k.b v0 (.slice (some ⟨g1,0,none⟩) N cap1),aO v0 aQ,bg (.slice (some ⟨g1,0,none⟩) N cap1) aM]++.subs (h-1) (b8++cq)::l2):=by
    intro w5 iC hx;have qR:au<=w5.heap.size:=hx.low (b:=nb) (t:=241) (vs:=[.slice p0 aQ.length c0,.slice p' i c']) (by simp[aK]);have Rk:=hx.aY qR 190 [.pointer (some ⟨iC.b,0,none⟩)];obtain⟨v',w',jD,hold⟩:=yZ (m:=iC) [.sub (h-1) iC,.sub (h-1) kk,aK nb (.slice p0 aQ.length c0) (.slice p' i c'),aO (.slice p0 aQ.length c0) aQ] Rk (by have:=(an HK).1;omega) 239;have r6:=hold.rowAt (v:=v') (e:=190) (k:=1) (n:=(yT++[iC]).length) (xs:=(yT++[iC]).map fun y=>bK y.b) (by simp[bg]);obtain⟨p6,c6,hv6⟩:=nX r6
    rw[length_append,(an HK).1]at hv6;rw[hv6]at jD hold;exact⟨p6,c6,w',jD,hold⟩
   have EC:=aq eC;have EA:=aq eA;have H6':=aq H6;have Hs:=aq uy;have rj:=aq hks1;have W4:=aq nS;clear eC eA H5 H6 uy hks1 hks2 nS r1 Ce;go_wp2_with fail
   go_region_law (first
    |(
     refine GC rfl 112 func112 adB ae6 _ 190 rfl (.pointer (some ⟨kk.b,0,none⟩)) (by simp[Act.eval,Act.put]) (an EC _ (an H6').drew) ?_;rintro e w5 ⟨iC,rfl,hc5,hL5,H5⟩;refine⟨_,rfl,?_⟩;have k5:w5.cell? ⟨nb,1,none⟩=some (.slice p' i c'):=H5.cellAt (t:=241) (vs:=[.slice p0 aQ.length c0,.slice p' i c']) (by simp[aK]) rfl;have k5a:∀o,(w5.alloc o).cell? ⟨nb,1,none⟩=some (.slice p' i c'):=fun o=>Lib.cell?_alloc_some _ k5
     have Hc5:=aq hc5;have HL5:=aq hL5;have H5':=aq H5;clear H5 hc5 hL5)
    |(
     obtain⟨p6,c6,w6,hr6,H7⟩:=an EA w5 iC (an H5');have k6:w6.cell? ⟨nb,1,none⟩=some (.slice p' i c'):=H7.cellAt (t:=241) (vs:=[.slice p0 aQ.length c0,.slice p' i c']) (by simp[aK]) rfl;have kf6:w6.frozen? ⟨nb,1,none⟩=false:=H7.frozenAt (t:=241) (vs:=[.slice p0 aQ.length c0,.slice p' i c']) (by simp[aK]) 1;have H7':=aq H7;clear H7;refine cH rfl _ _ 239 239 rfl (.slice p' i c') (.slice (some ⟨w5.heap.size,0,none⟩) 1 1) (by simp[Act.eval,Act.put]) (by simp[Act.eval,Act.put]) hr6 ?_;clear hr6))
   all_goals
    go_wp2_with fail
    go_roundg (N-i)
    case measure=>omega
    case rel=>
     refine⟨i+1,p6,c6,yT++[iC],by omega,by omega,by simp,?_,?_⟩
     ·obtain⟨h1,h2,h3⟩:=an HK;refine⟨by simp[h1],?_,fun x hx=>?_⟩
      ·rw[map_append,h2,take_add_one,an W4];simp[an HL5]
      ·simp at hx
       rcases hx with h|rfl
       ·exact h3 x h
       ·have:=an lq kk (mem_of_getElem? (an W4));exact⟨by rw[an Hc5];exact this.1,by rw[an Hc5];exact this.2⟩
     ·have h8:=(an H7').store [.sub (h-1) iC,.sub (h-1) kk] 1 (.slice p6 (i+1) c6) [.slice p0 aQ.length c0,.slice p6 (i+1) c6] rfl;have h9:=h8.Ys;rw[<-an Hs]at h9;exact h9
  ·have hz:¬((i:Int)<(N:Int)):=by omega
   have hiN:i=N:=by omega
   subst hiN;obtain⟨h1,h2,h3⟩:=an HK;rw[take_of_length_le (by have:=an HN;omega)]at h2
   have UP:Shape h aQ yT:=by
    rcases an BW with⟨h4,h5⟩|⟨h4,h5⟩
    ·refine .inl ⟨h4,eq_nil_of_length_eq_zero ?_⟩;have:=an HN;rw[h5]at this;simp at this;omega
    ·exact .inr ⟨h4,by have:=an HN;omega⟩
   obtain⟨k',MI,KY,hL',H'⟩:=aw.shut [] (an HR) UP h3;have H'':=aw.ry [.sub h k'] H' (an oZ) (an HL) (an BW) (an lq) (an nI);have HE:Hid (F6 au w0 K0 h k l2 (.returned (.pointer (some ⟨nb,0,none⟩))) wr):=⟨k',by rw[MI],by rw[KY,an oZ],by rw[hL',an HL,h2],H''⟩;clear h1 h2 h3 UP MI KY hL' H' H'';go_wp2_with fail;go_ret;exact an HE
theorem Lo (h:Nat):B4 h:=by
 induction h with
 |zero=>exact yD 0 (fun h=>absurd h (by omega))
 |succ h ih=>exact yD (h+1) (fun _=>ih)
def yK (au:Nat) (w0:World) (K0:Nat->Nat) (tb:Nat) (L:List aG) (l2:List aI) (e:Ending) (w':World):Prop:=
 ∃lr h' k',e=.returned (.pointer (some ⟨lr,0,none⟩))/\k'.L=L/\k'.c<=3/\(h'=0∨1<=k'.c)/\fY au w0 K0 w' tb L (.cell lr 192 [bK k'.b]::.sub h' k'::l2)
theorem zU (au:Nat) (w0:World) (K0:Nat->Nat) (w:World) (tb:Nat) (L:List aG) (l2:List aI) (HT:fY au w0 K0 w tb L l2):
 Calls prog 59 #[.pointer (some ⟨tb,0,none⟩)] w fun e w'=>yK au w0 K0 tb L l2 e w':=by
 obtain⟨hs,h,k,hL,hc,kE,H⟩:=HT;have q0:w.cell? ⟨tb,0,none⟩=some (.pointer (some ⟨k.b,0,none⟩)):=H.cellAt (t:=192) (vs:=[bK k.b]) (by simp) rfl;have e1:=Lo h au w0 K0 w k _ (H.front [_]) hc;have E1:=aq e1;have HL:=aq hL;have HS:=aq hs;have Ts:=aq kE;clear e1 hL hs kE H;go_enter func59,ntmps59;go_wp2_with fail;refine(an E1).mono ?_;rintro e w2 ⟨k',rfl,KY,hL',H2⟩;have cC:au<=w2.heap.size:=H2.low (b:=tb) (t:=192) (vs:=[bK k.b]) (by simp);have H3:=H2.aY cC 192 [bK k'.b]
 have HE:Hid (yK au w0 K0 tb L l2 (.returned (.pointer (some ⟨w2.heap.size,0,none⟩))) (w2.alloc (.cells #[.pointer (some ⟨k'.b,0,none⟩)] 192))):=by
  refine⟨w2.heap.size,h,k',rfl,by rw[hL',an HL],by omega,?_,an HS,h,k,an HL,hc,an Ts,?_⟩
  ·rw[KY];exact an Ts
  ·exact(H3.front [_,_]).front [_,_,_]
 clear KY hL' H2 H3 E1;go_wp2_with fail;go_ret;exact an HE
end
end Go.Proofs.YtphcnmlbieokoaaGreatDoor.T
