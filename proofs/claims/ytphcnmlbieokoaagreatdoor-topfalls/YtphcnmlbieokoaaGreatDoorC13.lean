import Derived.Test.YtphcnmlbieokoaaGreatDoorC3
import Derived.Test.YtphcnmlbieokoaaGreatDoorC6
import Derived.Maps.RangeWalk
import Derived.Maps.Ext
import Derived.Maps.OwnSet
import Derived.Lib.ValidLaws
import Derived.Lib.QuoteLoop
import Derived.Shelf.Strings.Prefix
import Derived.RegionTactic
set_option maxRecDepth 100000
set_option maxHeartbeats 16000000
set_option linter.unusedVariables false
set_option linter.unusedSimpArgs false
namespace Go.Proofs.YtphcnmlbieokoaaGreatDoor.T
open Go.RowKit List Go.Proofs.Tryz
open Go.Maps (Keyed)
open Go.WideElems (rd rg pl)
def Rv (v:Value):Option (DataW Value×List MemPlace):=some (.held v,[])
structure NV where
 id:Int
 aA:Int
 up:Int
 aB:Int
 aL:ByteArray
 tb:Option Nat
def NV.ptr (v:NV):Option Addr:=v.tb.map fun b=>⟨b,0,none⟩
def NV.val (v:NV):Value:=.agg #[.int .i64 v.id,.int .i64 v.aA,.int .i64 v.up,.int .i64 v.aB,.string v.aL,.pointer v.ptr]
def NV.zero:NV:=⟨0,0,0,0,⟨#[]⟩,none⟩
def kg (i:Int):Prop:=(Lit.int .i64 i).wf=true
theorem il {i:Int} (h1:-9223372036854775808<=i) (h2:i<=9223372036854775807):kg i:=by
 unfold kg Lit.wf;simp[IntKind.wrap,IntKind.signed,IntKind.bits,IntKind.min,IntKind.max];omega
def bq (N:List NV) (i:Int):Option NV:=N.find? fun v=>v.id==i
def bW (N:List NV) (i:Int):NV:=(bq N i).getD NV.zero
def dH (N:List NV) (v:NV):List NV:=if (bq N v.id).isSome then N.map (fun x=>if x.id==v.id then v else x)else N++[v]
def lN (N:List NV) (i:Int):List NV:=N.filter fun v=>!(v.id==i)
structure BV (N:List NV) (D:DataW Value):Prop where
 size:Maps.size D=N.length
 look:∀i z,kg i->D.atKey (.int .i64 i) z=(match bq N i with|none=>z|some v=>.held v.val)
 nodup:(N.map NV.id).Nodup
 wf:∀v∈N,kg v.id
theorem Mj (i:Int):WideAt.IsKeyLit (.int .i64 i):=by trivial
theorem dm {N:List NV} {i:Int} {v:NV} (h:bq N i=some v):v∈N/\v.id=i:=⟨mem_of_find?_eq_some h,by have:=find?_some h;simpa using this⟩
theorem lK {N:List NV} {i:Int} (h:bq N i=none):∀v∈N,v.id≠i:=by
 intro v hv e;have:=find?_eq_none.1 h v hv;simp[e]at this
theorem fZ {N:List NV} (hn:(N.map NV.id).Nodup) {v:NV} (hv:v∈N):bq N v.id=some v:=by
 induction N with
 |nil=>simp at hv
 |cons x N ih=>
  simp only[map_cons,nodup_cons]at hn;unfold bq;rw[find?_cons]
  rcases mem_cons.1 hv with rfl|hv
  ·simp
  ·have dr:x.id≠v.id:=fun e=>hn.1 (by rw[e];exact mem_map.2 ⟨v,hv,rfl⟩)
   have:(x.id==v.id)=false:=by simpa using dr
   rw[this];exact ih hn.2 hv
theorem G2 (N:List NV) (v:NV):(dH N v).map NV.id=if (bq N v.id).isSome then N.map NV.id else N.map NV.id++[v.id]:=by
 unfold dH
 split
 ·rw[map_map];refine map_congr_left fun x _=>?_
  show(if (x.id==v.id)=true then v else x).id=x.id
  split
  ·rename_i h;simp at h;exact h.symm
  ·rfl
 ·simp
theorem lE {N:List NV} (hn:(N.map NV.id).Nodup) (v:NV):((dH N v).map NV.id).Nodup:=by
 rw[G2]
 split
 ·exact hn
 ·rename_i h
  have h0:bq N v.id=none:=by cases hf:bq N v.id with|none=>rfl|some x=>rw[hf]at h;simp at h
  rw[nodup_append];refine⟨hn,by simp,fun a ha b hb=>?_⟩;simp at hb;subst hb;obtain⟨x,hx,rfl⟩:=mem_map.1 ha;exact lK h0 x hx
theorem nY (N:List NV) (v:NV):(dH N v).length=if (bq N v.id).isSome then N.length else N.length+1:=by
 unfold dH
 split<;>simp
theorem oS {N:List NV} {v:NV} (h:(bq N v.id).isSome=true):(N.map (fun x=>if x.id==v.id then v else x)).find? (fun x=>x.id==v.id)=some v:=by
 induction N with
 |nil=>simp[bq]at h
 |cons x N ih=>
  rw[map_cons,find?_cons]
  by_cases hx:(x.id==v.id)=true
  ·rw[if_pos hx];simp
  ·rw[if_neg hx];have sS:(x.id==v.id)=false:=by simpa using hx
   rw[sS];refine ih ?_;unfold bq at h ⊢;rw[find?_cons,sS]at h;exact h
theorem nA {N:List NV} {v:NV} {i:Int} (h:i≠v.id):(N.map (fun x=>if x.id==v.id then v else x)).find? (fun x=>x.id==i)=N.find? (fun x=>x.id==i):=by
 induction N with
 |nil=>rfl
 |cons x N ih=>
  rw[map_cons,find?_cons,find?_cons,ih]
  by_cases hx:(x.id==v.id)=true
  ·rw[if_pos hx];have h1:(v.id==i)=false:=by simpa using fun e=>h e.symm
   have h2:(x.id==i)=false:=by
    have sS:x.id=v.id:=by simpa using hx
    rw[sS];exact h1
   rw[h1,h2]
  ·rw[if_neg hx]
theorem nB (N:List NV) (v:NV):bq (dH N v) v.id=some v:=by
 unfold dH
 split
 ·rename_i h;exact oS h
 ·rename_i h
  have h0:bq N v.id=none:=by cases hf:bq N v.id with|none=>rfl|some x=>rw[hf]at h;simp at h
  unfold bq at h0 ⊢;rw[find?_append,h0];simp
theorem jW {N:List NV} {v:NV} {i:Int} (h:i≠v.id):bq (dH N v) i=bq N i:=by
 unfold dH
 split
 ·exact nA h
 ·unfold bq;rw[find?_append];have h1:(v.id==i)=false:=by simpa using fun e=>h e.symm
  rw[find?_cons,h1];simp
theorem nC (N:List NV) (i:Int):bq (lN N i) i=none:=by
 unfold bq lN;rw[find?_eq_none];intro x hx;have:=(mem_filter.1 hx).2
 simpa using this
theorem jX {N:List NV} {i j:Int} (h:j≠i):bq (lN N i) j=bq N j:=by
 unfold bq lN;exact Maps.find_filter_keep (fun v hv=>by simp at hv ⊢;rw[hv];exact h) N
theorem sn {N:List NV} (hn:(N.map NV.id).Nodup) (i:Int):(lN N i).length+(if (bq N i).isSome then 1 else 0)=N.length:=by
 induction N with
 |nil=>rfl
 |cons x N ih=>
  simp only[map_cons,nodup_cons]at hn;have:=ih hn.2;unfold lN bq at *;rw[filter_cons,find?_cons]
  by_cases hx:(x.id==i)=true
  ·have hi:N.find? (fun v=>v.id==i)=none:=by
    rw[find?_eq_none];intro y hy e;have e1:y.id=i:=by simpa using e
    have e2:x.id=i:=by simpa using hx
    exact hn.1 (mem_map.2 ⟨y,hy,by rw[e1,e2]⟩)
   rw[hi]at this;simp only[hx];simp at this ⊢;omega
  ·have sS:(x.id==i)=false:=by simpa using hx
   simp only[sS];simp only[Bool.not_false,if_true,length_cons];omega
theorem BV.has {N:List NV} {D:DataW Value} (h:BV N D) {i:Int} (hi:kg i):Maps.has D (.int .i64 i)=(bq N i).isSome:=by
 cases hf:bq N i with
 |none=>exact Maps.has_false_of_atKey fun z=>by rw[h.look i z hi,hf]
 |some v=>exact Maps.has_true_of_atKey (y:=.held v.val) fun z=>by rw[h.look i z hi,hf]
theorem BV.put {N:List NV} {D:DataW Value} (h:BV N D) (ht:Maps.Tidy D) {v:NV} (hi:kg v.id):BV (dH N v) (D.put (.int .i64 v.id) (.held v.val)):=by
 refine⟨?_,fun i z hw=>?_,lE h.nodup v,fun x hx=>?_⟩
 ·rw[Maps.size_put ht,h.has hi,h.size,nY]
 ·by_cases he:i=v.id
  ·subst he;rw[Maps.atKey_put_same ht.isMap (Mj _),nB]
  ·rw[Maps.atKey_put_other (by intro e;cases e;exact he rfl),h.look i z hw,jW he]
 ·have:x.id∈(dH N v).map NV.id:=mem_map.2 ⟨x,hx,rfl⟩;rw[G2]at this
  split at this
  ·obtain⟨y,hy,e⟩:=mem_map.1 this;rw[<-e];exact h.wf y hy
  ·rcases mem_append.1 this with h1|h1
   ·obtain⟨y,hy,e⟩:=mem_map.1 h1;rw[<-e];exact h.wf y hy
   ·simp at h1;rw[h1];exact hi
theorem BV.del {N:List NV} {D:DataW Value} (h:BV N D) (ht:Maps.Tidy D) {i:Int} (hi:kg i):BV (lN N i) (D.del (.int .i64 i)):=by
 refine⟨?_,fun j z hw=>?_,?_,fun x hx=>h.wf x (mem_filter.1 hx).1⟩
 ·have h1:=Maps.size_del (k:=.int .i64 i) ht;rw[h.has hi,h.size]at h1;have h2:=sn h.nodup i;omega
 ·by_cases he:j=i
  ·subst he;rw[Maps.atKey_del_same,nC]
  ·rw[Maps.atKey_del_other (by intro e;cases e;exact he rfl),h.look j z hw,jX he]
 ·have e:(lN N i).map NV.id=(N.map NV.id).filter fun x=>!(x==i):=by
   unfold lN;rw[filter_map];rfl
  rw[e];exact h.nodup.filter _
def bU (N:List NV) (o:Obj):Prop:=∃es clock,o=.map es clock/\Go.WideElems.Fit prog 3 Rv es clock/\BV N (.map ((es.toList.map (rg prog 3 Rv)).foldr DataW.insert []))
theorem kI:Keyed prog 3:=Maps.int_keyed underlying3
theorem Iw {i:Int} (h:kg i):keyOf prog 3 (.int .i64 i)=some (.int .i64 i):=Maps.keyOf_int_mk underlying3 h
theorem fH {au:Nat} {w:World} {b:Nat} {N:List NV} (h:aI.Sat au w (.obj b (bU N))):∃D,w.ownsMap prog 3 Rv b N.length D/\BV N D:=by
 obtain⟨_,o,ho,es,clock,rfl,F,hm⟩:=h;have:=hm.size;simp[Maps.size,length_sorted]at this;exact⟨_,⟨es,clock,ho,F,by omega,rfl⟩,hm⟩
theorem ng {au:Nat} {w:World} {b n:Nat} {N:List NV} {D:DataW Value} (hb:au<=b) (h:w.ownsMap prog 3 Rv b n D) (hm:BV N D):aI.Sat au w (.obj b (bU N)):=by
 obtain⟨es,clock,ho,F,_,rfl⟩:=h;exact⟨hb,_,ho,es,clock,rfl,F,hm⟩
theorem Q4 {au:Nat} {w:World} {b:Nat} {N:List NV} (h:aI.Sat au w (.obj b (bU N))) {i:Int} (hi:kg i):(Instr.lookup 124 (.map (some b)) (.int .i64 i) false).run prog w=.ok (bW N i).val w:=by
 obtain⟨D,ho,hm⟩:=fH h;obtain⟨v,ps,jD,hv⟩:=ho.lookup kI underlying124 (z:=NV.zero.val) (zeroValue107 w) (zd:=.held NV.zero.val) (zp:=[]) rfl (Iw hi);rw[jD,hm.look i _ hi]at *;unfold Rv at hv;unfold bW
 cases hf:bq N i with
 |none=>rw[hf]at hv;simp at hv;rw[hv.1];rfl
 |some x=>rw[hf]at hv;simp at hv;rw[hv.1];rfl
theorem Ey {au:Nat} {w:World} {b:Nat} {N:List NV} (h:aI.Sat au w (.obj b (bU N))) (ty:TypeId):(Builtin.len_ #[124] ty #[.map (some b)]).run prog w=.ok (.int .i64 N.length) w:=by
 obtain⟨D,ho,hm⟩:=fH h;rw[ho.len underlying124 ty,hm.size]
theorem aw.nj {au:Nat} {w0 w:World} {K0:Nat->Nat} (l1:List aI) {b:Nat} {N:List NV} {l2:List aI} (H:aw au w0 K0 w (l1++.obj b (bU N)::l2)) (hN:N.length<=1000) (v:NV) (hi:kg v.id):
 ∃w',(Instr.mapUpdate 124 (.map (some b)) (.int .i64 v.id) v.val).run prog w=.ok () w'/\aw au w0 K0 w' (l1++.obj b (bU (dH N v))::l2):=by
 have hs:=H.sat (.obj b (bU N)) (by simp);obtain⟨D,ho,hm⟩:=fH hs;obtain⟨w',jD,ho',hg⟩:=ho.update kI underlying124 (by unfold maxLen;omega) (val:=v.val) (d:=.held v.val) (ps:=[]) (Iw hi) rfl;refine⟨w',jD,H.put l1 ((Kept.refl _ w).grown hg fun x hx _=>?_) (ng hs.1 ho' (hm.put (ho.tidy kI) hi)) (fun x _=>Nat.le_refl _) (one_le b)⟩
 cases hx
 show 0<one b b;rw[bx];decide
theorem aw.Kw {au:Nat} {w0 w:World} {K0:Nat->Nat} (l1:List aI) {b:Nat} {N:List NV} {l2:List aI} (H:aw au w0 K0 w (l1++.obj b (bU N)::l2)) (i:Int) (hi:kg i) (ty:TypeId):
 ∃w',(Builtin.delete_ #[124,3] ty #[.map (some b),.int .i64 i]).run prog w=.ok (.tuple #[]) w'/\aw au w0 K0 w' (l1++.obj b (bU (lN N i))::l2):=by
 have hs:=H.sat (.obj b (bU N)) (by simp);obtain⟨D,ho,hm⟩:=fH hs;obtain⟨w',jD,ho',hg⟩:=ho.drop kI underlying124 (Iw hi) ty;refine⟨w',jD,H.put l1 ((Kept.refl _ w).grown hg.grown fun x hx _=>?_) (ng hs.1 ho' (hm.del (ho.tidy kI) hi)) (fun x _=>Nat.le_refl _) (one_le b)⟩
 cases hx
 show 0<one b b;rw[bx];decide
theorem aw.rP {au:Nat} {w0 w:World} {K0:Nat->Nat} {rs:List aI} (H:aw au w0 K0 w rs) (hb:au<=w.heap.size):aw au w0 K0 (w.alloc (.map #[] 0)) (.obj w.heap.size (bU [])::rs):=by
 refine H.new ((Kept.refl _ w).alloc _) (ng hb (World.ownsMap_made w prog 3 Rv) ⟨rfl,fun i z _=>rfl,by simp,by simp⟩) (fun x hx=>by obtain rfl:=one_pos.1 hx;exact Nat.le_refl _) (one_le _)
abbrev aC:=List (Nat×List aG)
def aX (F:aC) (tb:Nat):List aG:=((F.find? fun x=>x.1==tb).map (·.2)).getD []
def bp (F:aC) (v:NV):List aG:=match v.tb with|none=>[]|some tb=>aX F tb
def gK (F:aC) (tb:Nat) (L:List aG):aC:=F.map fun x=>if x.1==tb then(tb,L)else x
inductive fG:aC->List aI->Prop
 |nil:fG [] []
 |cons {F:aC} {rs:List aI} (tb:Nat) (L:List aG) (h:Nat) (k:bQ):bf L->k.L=L->k.c<=3->(h=0∨1<=k.c)->fG F rs->fG ((tb,L)::F) (.cell tb 192 [bK k.b]::.sub h k::rs)
abbrev H0 (w0 w:World) (rs:List aI):Prop:=aw w0.heap.size w0 (fun _=>0) w rs
theorem H0.below {w0 w:World} {rs:List aI} (h:H0 w0 w rs):Below w0.heap.size w0 w:=h.kept.below (Nat.le_refl _) (fun x hx=>absurd hx (by omega))
theorem H0.start (w0:World):H0 w0 w0 []:=⟨by simp,fun x=>by rw[fx];omega,fun x _=>by rw[fx];omega,Kept.refl _ _⟩
theorem H0.step {w0 w w':World} {rs:List aI} (h:H0 w0 w rs) (hb:Below w.heap.size w w'):H0 w0 w' rs:=h.keep (Kept.iH hb)
def aJ (w0 w:World) (fb mb:Nat) (N:List NV) (F:aC) (ar:Int) (l2:List aI):Prop:=
 ∃rs,fG F rs/\H0 w0 w (.cell fb 126 [.map (some mb),.int .i64 ar]::.obj mb (bU N)::(rs++l2))
structure Fits (N:List NV) (F:aC) (ar:Int):Prop where
 tree:∀v∈N,v.aA=1->∃tb,v.tb=some tb/\tb∈F.map (·.1)
 ix:N.length<=16
 id:∀v∈N,0<=v.id/\v.id<=999
 up:∀v∈N,0<=v.up/\v.up<=999
 gA:∀x∈F,∀it∈x.2,0<=it.aN/\it.aN<=999
 full:∀x∈F,∀it∈x.2,it.az.toList.isEmpty=false
 ar:1<=ar/\ar<=1000
 aF:∀x∈F,x.2.length<=900
theorem fG.split {F:aC} {rs:List aI} (h:fG F rs) {tb:Nat} (ht:tb∈F.map (·.1)):
 ∃h' k B6 oY,rs=B6++.cell tb 192 [bK k.b]::.sub h' k::oY/\bf (aX F tb)/\k.L=aX F tb/\k.c<=3/\(h'=0∨1<=k.c)/\
  ∀(h2:Nat) (k2:bQ) (L:List aG),bf L->k2.L=L->k2.c<=3->(h2=0∨1<=k2.c)->(∀x∈B6++oY,∀t vs,x≠.cell tb t vs)->fG (gK F tb L) (B6++.cell tb 192 [bK k2.b]::.sub h2 k2::oY):=by
 induction h with
 |nil=>simp at ht
 | @cons F rs lr L' h' k' hs hL hc h1 hr ih=>
  by_cases he:lr=tb
  ·subst he;have e:aX ((lr,L')::F) lr=L':=by simp[aX]
   refine⟨h',k',[],rs,rfl,by rw[e];exact hs,by rw[e];exact hL,hc,h1,fun h2 k2 L yl CE OG pX nR=>?_⟩
   have e2:gK ((lr,L')::F) lr L=(lr,L)::F:=by
    have:∀x∈F,x.1≠lr:=by
     intro x hx e3
     have az:∀{F:aC} {rs:List aI},fG F rs->∀x∈F,∃k:bQ,aI.cell x.1 192 [bK k.b]∈rs:=by
      intro F rs hr
      induction hr with
      |nil=>simp
      |cons tb L h k _ _ _ _ _ ih=>
       intro x hx
       rcases mem_cons.1 hx with rfl|hx
       ·exact⟨k,by simp⟩
       ·obtain⟨k,hk⟩:=ih x hx;exact⟨k,by simp[hk]⟩
     obtain⟨k,hk⟩:=az hr x hx;rw[e3]at hk;exact nR _ (by simpa using hk) _ _ rfl
    simp only[gK,map_cons,beq_self_eq_true,if_true]
    congr 1
    have:∀x∈F,(if (x.1==lr)=true then(lr,L)else x)=x:=fun x hx=>by rw[if_neg];simpa using this x hx
    exact(map_congr_left this).trans (map_id _)
   rw[e2];exact .cons lr L h2 k2 yl CE OG pX hr
  ·have TT:tb∈F.map (·.1):=by simp at ht;rcases ht with e|h;exact absurd e.symm he;simpa using h
   obtain⟨h2,k2,B6,oY,e,a1,a2,a3,a4,a5⟩:=ih TT
   have el:aX ((lr,L')::F) tb=aX F tb:=by
    have:(lr==tb)=false:=by simpa using he
    simp[aX,find?_cons,this]
   refine⟨h2,k2,.cell lr 192 [bK k'.b]::.sub h' k'::B6,oY,by rw[e];rfl,by rw[el];exact a1,by rw[el];exact a2,a3,a4,fun h3 k3 L b1 b2 b3 b4 b5=>?_⟩
   have e2:gK ((lr,L')::F) tb L=(lr,L')::gK F tb L:=by simp[gK,he]
   rw[e2];exact .cons lr L' h' k' hs hL hc h1 (a5 h3 k3 L b1 b2 b3 b4 fun x hx=>b5 x (by simp at hx ⊢;rcases hx with h|h<;>simp[h]))
theorem aJ.tree {w0 w:World} {fb mb:Nat} {N:List NV} {F:aC} {ar:Int} {l2:List aI} (h:aJ w0 w fb mb N F ar l2) {tb:Nat} (ht:tb∈F.map (·.1)):
 ∃rest:List aI,fY w0.heap.size w0 (fun _=>0) w tb (aX F tb) rest/\
  ∀w' L,fY w0.heap.size w0 (fun _=>0) w' tb L rest->aJ w0 w' fb mb N (gK F tb L) ar l2:=by
 obtain⟨rs,hr,H⟩:=h;obtain⟨h',k,B6,oY,rfl,a1,a2,a3,a4,a5⟩:=hr.split ht;refine⟨.cell fb 126 [.map (some mb),.int .i64 ar]::.obj mb (bU N)::(B6++oY++l2),⟨a1,h',k,a2,a3,a4,?_⟩,fun w' L hT=>?_⟩
 ·refine H.conv (fun x=>?_) (fun r hr=>H.sat r ?_)
  ·simp only[ay,ax];omega
  ·simp only[mem_append,mem_cons]at hr ⊢
   rcases hr with h|h|h|h|(h|h)|h<;>simp[h]
 ·obtain⟨s1,h2,k2,b1,b2,b3,H2⟩:=hT;refine⟨B6++.cell tb 192 [bK k2.b]::.sub h2 k2::oY,a5 h2 k2 L s1 b1 b2 b3 fun x hx t vs e=>?_,?_⟩
  ·have h3:=H2.uniq tb;subst e
   have h4:1<=total (B6++oY) tb:=by have:=gH hx tb;rw[bM,bx]at this;exact this
   simp only[ay,ax,bM,bx]at h3 h4;omega
  ·refine H2.conv (fun x=>?_) (fun r hr=>H2.sat r ?_)
   ·simp only[ay,ax];omega
   ·simp only[mem_append,mem_cons]at hr ⊢
    rcases hr with h|h|(h|h|h|h)|h<;>simp[h]
theorem pt (F:aC) (tb:Nat) (L:List aG) (h:tb∈F.map (·.1)):aX (gK F tb L) tb=L:=by
 induction F with
 |nil=>simp at h
 |cons x F ih=>
  by_cases e:(x.1==tb)=true
  ·have ex:x.1=tb:=by simpa using e
   simp[aX,gK,ex]
  ·have e':(x.1==tb)=false:=by simpa using e
   have h':tb∈F.map (·.1):=by
    simp at h e
    rcases h with h|h
    ·exact absurd h.symm e
    ·simpa using h
   have:=ih h';simp only[aX,gK,map_cons,e',find?_cons]at this ⊢
   simpa[e']using this
theorem fh (F:aC) (tb t2:Nat) (L:List aG) (h:t2≠tb):aX (gK F tb L) t2=aX F t2:=by
 induction F with
 |nil=>rfl
 |cons x F ih=>
  simp only[aX,gK,map_cons,find?_cons]at ih ⊢
  by_cases e:(x.1==tb)=true
  ·have ex:x.1=tb:=by simpa using e
   have h1:(tb==t2)=false:=by simpa using fun e=>h e.symm
   have h2:(x.1==t2)=false:=by rw[ex];exact h1
   simp only[e,if_true,h1,h2];exact ih
  ·simp only[if_neg e]
   cases (x.1==t2)
   ·exact ih
   ·rfl
theorem cV (F:aC) (tb:Nat) (L:List aG):(gK F tb L).map (·.1)=F.map (·.1):=by
 unfold gK;rw[map_map];refine map_congr_left fun x _=>?_
 show(if (x.1==tb)=true then(tb,L)else x).1=x.1
 split
 ·rename_i h;simp at h;exact h.symm
 ·rfl
theorem wJ (F:aC) (tb:Nat) (hu:∀x∈F,x.1=tb->x.2=aX F tb):gK F tb (aX F tb)=F:=by
 unfold gK;refine(map_congr_left fun x hx=>?_).trans (map_id _)
 show(if (x.1==tb)=true then(tb,aX F tb)else x)=x
 split
 ·rename_i h
  have e:x.1=tb:=by simpa using h
  rw[<-hu x hx e,<-e]
 ·rfl
theorem fG.Yz {F:aC} {rs:List aI} (h:fG F rs):∀x∈F,∃k:bQ,aI.cell x.1 192 [bK k.b]∈rs:=by
 induction h with
 |nil=>simp
 |cons tb L h k _ _ _ _ _ ih=>
  intro x hx
  rcases mem_cons.1 hx with rfl|hx
  ·exact⟨k,by simp⟩
  ·obtain⟨k,hk⟩:=ih x hx;exact⟨k,by simp[hk]⟩
theorem fG.nodup {F:aC} {rs:List aI} (h:fG F rs) (hu:∀x,total rs x<=1):(F.map (·.1)).Nodup:=by
 induction h with
 |nil=>simp
 | @cons F rs tb L h k _ _ _ _ hr ih=>rw[map_cons,nodup_cons];refine⟨fun hm=>?_,ih fun x=>by have:=hu x;simp only[ax]at this;omega⟩;obtain⟨x,hx,e⟩:=mem_map.1 hm;obtain⟨k2,hk⟩:=hr.Yz x hx;have h1:=gH hk tb;have h2:=hu tb;rw[bM,e,bx]at h1;simp only[ax,bM,bx]at h2;omega
theorem aJ.nodup {w0 w:World} {fb mb:Nat} {N:List NV} {F:aC} {ar:Int} {l2:List aI} (h:aJ w0 w fb mb N F ar l2):(F.map (·.1)).Nodup:=by
 obtain⟨rs,hr,H⟩:=h;refine hr.nodup fun x=>?_
 have:=H.uniq x;simp only[ax,ay]at this;omega
theorem wX {F:aC} (hn:(F.map (·.1)).Nodup) {x:Nat×List aG} (hx:x∈F):aX F x.1=x.2:=by
 induction F with
 |nil=>simp at hx
 |cons y F ih=>
  rw[map_cons,nodup_cons]at hn
  rcases mem_cons.1 hx with rfl|hx
  ·simp[aX]
  ·have dr:(y.1==x.1)=false:=by
    have:y.1≠x.1:=fun e=>hn.1 (by rw[e];exact mem_map.2 ⟨x,hx,rfl⟩)
    simpa using this
   have:=ih hn.2 hx;unfold aX at this ⊢;rw[find?_cons,dr];exact this
theorem dh {F:aC} {tb:Nat} (h:tb∈F.map (·.1)):(tb,aX F tb)∈F:=by
 induction F with
 |nil=>simp at h
 |cons y F ih=>
  unfold aX;rw[find?_cons]
  by_cases e:(y.1==tb)=true
  ·have e':y.1=tb:=by simpa using e
   simp[e,<-e']
  ·have e':(y.1==tb)=false:=by simpa using e
   rw[e']
   have h':tb∈F.map (·.1):=by
    simp at h e
    rcases h with h|h
    ·exact absurd h.symm e
    ·simpa using h
   exact mem_cons_of_mem _ (ih h')
theorem aJ.uW {w0 w:World} {fb mb:Nat} {N:List NV} {F:aC} {ar:Int} {l2:List aI} (h:aJ w0 w fb mb N F ar l2) {tb:Nat} (ht:tb∈F.map (·.1)):
 ∃rest:List aI,fY w0.heap.size w0 (fun _=>0) w tb (aX F tb) rest/\∀w',fY w0.heap.size w0 (fun _=>0) w' tb (aX F tb) rest->aJ w0 w' fb mb N F ar l2:=by
 obtain⟨rest,h1,h2⟩:=h.tree ht;refine⟨rest,h1,fun w' hT=>?_⟩;have:=h2 w' _ hT;rw[wJ F tb fun x hx e=>by rw[<-e,wX h.nodup hx]]at this;exact this
theorem eQ (v:NV) (w:World):Calls prog 58 #[v.val] w fun e w'=>e=.returned (.bool (v.aA==1))/\Below w.heap.size w w':=by
 unfold NV.val;generalize v.ptr=p;generalize v.aA=k;go_enter func58,ntmps58
 go_wp2
 go_ret;exact⟨rfl,(Below.refl _ _).alloc (Nat.le_refl _) _⟩
end Go.Proofs.YtphcnmlbieokoaaGreatDoor.T
namespace Go.Proofs.YtphcnmlbieokoaaGreatDoor
open Go.Lib List
def abH (r:Int):Prop:=0<=r/\r<=1114111/\¬(55296<=r/\r<=57343)
theorem bA.wide {r:Int} (h:bA r):abH r:=⟨h.1,by have:=h.2;omega,by have:=h.2;omega⟩
open Go.RowKit Go.Proofs.Tryz
def bH:Option Int->Value
 |none=>.nilIface
 |some k=>.iface 88 (.int .i64 k)
noncomputable def ir (s:ByteArray):List Int:=open Classical in if h:∃rs,s=bL rs/\∀r∈rs,bA r then Classical.choose h else []
theorem SB {a b:List Int} (ha:∀r∈a,bA r) (hb:∀r∈b,bA r) (h:bL a=bL b):a=b:=by
 refine Je a b ha hb ?_;have:=congrArg (fun x:ByteArray=>x.data.toList) h
 simpa[bL]using this
theorem jo {rs:List Int} (h:∀r∈rs,bA r):ir (bL rs)=rs:=by
 have hx:∃qs,bL rs=bL qs/\∀r∈qs,bA r:=⟨rs,rfl,h⟩;unfold ir;rw[dif_pos hx];have:=Classical.choose_spec hx;exact(SB h this.2 this.1).symm
def jO (s:ByteArray):Bool:=s.toList==[46]||s.toList==[46,46]
noncomputable def aR (s:ByteArray):Option Int:=
 if s.size=0∨24<s.size then some 1
 else if Lib.validD s.data.toList=false then some 4
 else if rK s=false then some 3
 else if bu ((ir s).headD 0)≠0 then some 3
 else if jO s=true then some 3
 else if 12<(ff (ir s)).length then some 2 else none
theorem sr {s:ByteArray} (h:s.size=0∨24<s.size):aR s=some 1:=by unfold aR;rw[if_pos h]
theorem FN {s:ByteArray} (h0:¬s.size=0) (h1:¬24<s.size) (hv:Lib.validD s.data.toList=false):aR s=some 4:=by
 unfold aR;rw[if_neg (by omega),if_pos hv]
theorem Jo {s:ByteArray} (h0:¬s.size=0) (h1:¬24<s.size) (hv:Lib.validD s.data.toList=true) (ho:rK s=false):aR s=some 3:=by
 unfold aR;rw[if_neg (by omega),if_neg (by rw[hv];simp),if_pos ho]
theorem Jp {r:Int} {rs:List Int} (h0:¬(bL (r::rs)).size=0) (h1:¬24<(bL (r::rs)).size) (hv:Lib.validD (bL (r::rs)).data.toList=true) (ho:rK (bL (r::rs))=true) (hs:∀x∈r::rs,bA x) (hc:bu r≠0):aR (bL (r::rs))=some 3:=by
 unfold aR;rw[if_neg (by omega),if_neg (by rw[hv];simp),if_neg (by rw[ho];simp),jo hs,if_pos (by simpa using hc)]
theorem Jr {r:Int} {rs:List Int} (h0:¬(bL (r::rs)).size=0) (h1:¬24<(bL (r::rs)).size) (hv:Lib.validD (bL (r::rs)).data.toList=true) (ho:rK (bL (r::rs))=true) (hs:∀x∈r::rs,bA x) (hc:bu r=0) (hd:jO (bL (r::rs))=true):aR (bL (r::rs))=some 3:=by
 unfold aR;rw[if_neg (by omega),if_neg (by rw[hv];simp),if_neg (by rw[ho];simp),jo hs,if_neg (by simpa using hc),if_pos hd]
theorem Jq {r:Int} {rs:List Int} (h0:¬(bL (r::rs)).size=0) (h1:¬24<(bL (r::rs)).size) (hv:Lib.validD (bL (r::rs)).data.toList=true) (ho:rK (bL (r::rs))=true) (hs:∀x∈r::rs,bA x) (hc:bu r=0) (hd:jO (bL (r::rs))=false):aR (bL (r::rs))=if 12<(ff (r::rs)).length then some 2 else none:=by
 unfold aR;rw[if_neg (by omega),if_neg (by rw[hv];simp),if_neg (by rw[ho];simp),jo hs,if_neg (by simpa using hc),if_neg (by rw[hd];simp)]
theorem iR {s:ByteArray} (h:aR s=none):Name (ir s)/\s=bL (ir s)/\jO s=false:=by
 unfold aR at h
 split at h
 ·cases h
 rename_i h1
 split at h
 ·cases h
 rename_i h2
 split at h
 ·cases h
 rename_i h3
 have ho:rK s=true:=by simpa using h3
 obtain⟨rs,rfl,hz⟩:=Da s ho;have pV:∀r∈rs,bA r:=fun r hr=>pC (hz r hr)
 rw[jo pV]at h ⊢
 split at h
 ·cases h
 rename_i h4
 split at h
 ·cases h
 rename_i h5
 split at h
 ·cases h
 rename_i h6
 refine⟨⟨hz,?_,?_,?_,by omega⟩,rfl,by simpa using h5⟩
 ·rintro rfl;exact h1 (.inl rfl)
 ·rintro q t rfl
  simpa using h4
 ·rw[<-ej];omega
theorem BJ (s:ByteArray) (w:World) (hR:bF w) (hs:s.size<=9223372036854775807):
 Calls prog 122 #[.string s] w fun e w'=>e=.returned (bH (aR s))/\Below w.heap.size w w':=by
 by_cases h0:s.size=0
 ·have h0z:((s.size:Int)==0)=true:=by simp[h0]
  have Hk:Hid (aR s=some 1):=sr (.inl h0);go_enter func122,ntmps122
  go_wp2
  go_ret;exact⟨by rw[an Hk];rfl,Below.refl _ _⟩
 ·have h0z:((s.size:Int)==0)=false:=by simp[h0]
  by_cases h1:24<s.size
  ·have h1z:(24:Int)<(s.size:Int):=by omega
   have Hk:Hid (aR s=some 1):=sr (.inr h1);go_enter func122,ntmps122
   go_wp2
   go_ret;exact⟨by rw[an Hk];rfl,Below.refl _ _⟩
  ·have h1z:¬(24:Int)<(s.size:Int):=by omega
   have hV:=uS s w hs hR.u8
   cases hv:Lib.validD s.data.toList with
   |false=>
    have Hk:Hid (aR s=some 4):=FN h0 h1 hv;rw[hv]at hV;clear hv;go_enter func122,ntmps122;go_wp2_with fail;refine hV.mono ?_;rintro e w1 ⟨rfl,dJ⟩
    go_wp2
    go_ret;exact⟨by rw[an Hk];rfl,dJ⟩
   |true=>
    rw[hv]at hV;have Hv:=aq hv;clear hv;have hO:=fun wx (hx:bF wx)=>yS s wx hx.tab
    cases ho:rK s with
    |false=>
     have Hk:Hid (aR s=some 3):=Jo h0 h1 (an Hv) ho;rw[ho]at hO;clear ho;go_enter func122,ntmps122;go_wp2_with fail;refine hV.mono ?_;rintro e w1 ⟨rfl,dJ⟩;have yq:=hR.later dJ;go_wp2_with fail;refine(hO w1 yq).mono ?_;rintro e w2 ⟨rfl,cC⟩
     go_wp2
     go_ret;exact⟨by rw[an Hk];rfl,dJ.trans (cC.mono dJ.size)⟩
    |true=>
     rw[ho]at hO;obtain⟨rs,rfl,hz⟩:=Da s ho;have Ho:=aq ho;clear ho;have pV:∀r∈rs,bA r:=fun r hr=>pC (hz r hr)
     have hb:(bI rs).length<=24:=by rw[<-ej];omega
     cases rs with
     |nil=>exact absurd rfl h0
     |cons r rs=>
      have Ym:=fun wx (hx:bF wx)=>FQ r rs wx hx.u8 (pV r (by simp))
      cases hc:bu r != 0 with
      |true=>
       have Hk:Hid (aR (bL (r::rs))=some 3):=Jp h0 h1 (an Hv) (an Ho) pV (by simpa using hc);rw[hc]at Ym;clear hc hz pV hb Hv Ho;generalize bL (r::rs)=s at *;go_enter func122,ntmps122;go_wp2_with fail;refine hV.mono ?_;rintro e w1 ⟨rfl,dJ⟩;have yq:=hR.later dJ;go_wp2_with fail;refine(hO w1 yq).mono ?_;rintro e w2 ⟨rfl,cC⟩;have J3:=yq.later cC;go_wp2_with fail;refine(Ym w2 J3).mono ?_;rintro e w3 ⟨rfl,hQ⟩
       go_wp2
       go_ret;exact⟨by rw[an Hk];rfl,(dJ.trans (cC.mono dJ.size)).trans (hQ.mono (by have:=dJ.size;have:=cC.size;omega))⟩
      |false=>
       rw[hc]at Ym;have lv:bu r=0:=by simpa using hc
       have Hd3:Hid (jO (bL (r::rs))=true->aR (bL (r::rs))=some 3):=fun hd=>Jr h0 h1 (an Hv) (an Ho) pV lv hd
       have Hd2:Hid (jO (bL (r::rs))=false->aR (bL (r::rs))=if 12<(ff (r::rs)).length then some 2 else none):=fun hd=>Jq h0 h1 (an Hv) (an Ho) pV lv hd
       clear Hv Ho;have hD:=fun wx=>BB (bL (r::rs)) wx
       have hP:=fun wx (hx:bF wx)=>pf (r::rs) wx hx.tab pV (by have:=(gV (r::rs) pV).1;omega) (by have:=rO (r::rs) pV;omega)
       have hN:=fun wx=>Tryz.utf8_RuneCountInString (bL (ff (r::rs))) wx (by
        rw[ej];have h5:=(gV (ff (r::rs)) (mE pV)).2;rw[lU]at h5;have h6:=mZ (r::rs);have h7:=(gV (r::rs) pV).1;omega)
       rw[Cl _ (mE pV)]at hN;have ahg:Hid ((ff (r::rs)).length<=12->Name (r::rs)):=fun h=>⟨hz,by simp,fun q t e=>by cases e;exact lv,hb,h⟩
       have hlen:(ff (r::rs)).length<=1000:=by rw[lU];have h6:=mZ (r::rs);have h7:=(gV (r::rs) pV).1;omega
       obtain⟨s,Hs⟩:∃s,Hid (bL (r::rs)=s):=⟨_,rfl⟩;rw[an Hs]at hV hO Ym hD hP h0z h1z Hd3 Hd2 ⊢;clear hc lv hz pV hb h0 h1 hs;generalize (ff (r::rs)).length=n at *;generalize bL (ff (r::rs))=sp at *
       cases hd:(s.toList==[46]||s.toList==[46,46])with
       |true=>
        have Hk:Hid (aR s=some 3):=an Hd3 hd;rw[hd]at hD;clear hd;go_enter func122,ntmps122;go_wp2_with fail;refine hV.mono ?_;rintro e w1 ⟨rfl,dJ⟩;have yq:=hR.later dJ;go_wp2_with fail;refine(hO w1 yq).mono ?_;rintro e w2 ⟨rfl,cC⟩;have J3:=yq.later cC;go_wp2_with fail;refine(Ym w2 J3).mono ?_;rintro e w3 ⟨rfl,hQ⟩;go_wp2_with fail;refine(hD w3).mono ?_;rintro e wx ⟨rfl,dE⟩;have dE:=dE.symm;subst dE
        go_wp2
        go_ret;exact⟨by rw[an Hk];rfl,(dJ.trans (cC.mono dJ.size)).trans (hQ.mono (by have:=dJ.size;have:=cC.size;omega))⟩
       |false=>
        have J4:=aq (an Hd2 hd);rw[hd]at hD;clear hd
        by_cases hn:12<n
        ·have XY:(12:Int)<(n:Int):=by omega
         have Hk:Hid (aR s=some 2):=(an J4).trans (if_pos hn);go_enter func122,ntmps122;go_wp2_with fail;refine hV.mono ?_;rintro e w1 ⟨rfl,dJ⟩;have yq:=hR.later dJ;go_wp2_with fail;refine(hO w1 yq).mono ?_;rintro e w2 ⟨rfl,cC⟩;have J3:=yq.later cC;go_wp2_with fail;refine(Ym w2 J3).mono ?_;rintro e w3 ⟨rfl,hQ⟩;have hR3:=J3.later hQ;go_wp2_with fail;refine(hD w3).mono ?_;rintro e wx ⟨rfl,dE⟩;have dE:=dE.symm;subst dE;go_wp2_with fail;refine(hP w3 hR3).mono ?_;rintro e w4 ⟨rfl,iU⟩;go_wp2_with fail;refine(hN w4).mono ?_;rintro e w5 ⟨rfl,pos,hw5⟩
         have qR:Below w4.heap.size w4 w5:=by rw[hw5];exact(Below.refl _ _).alloc (Nat.le_refl _) _
         clear hw5
         go_wp2
         go_ret;exact⟨by rw[an Hk];rfl,(((dJ.trans (cC.mono dJ.size)).trans (hQ.mono (by have:=dJ.size;have:=cC.size;omega))).trans (iU.mono (by have:=dJ.size;have:=cC.size;have:=hQ.size;omega))).trans (qR.mono (by have:=dJ.size;have:=cC.size;have:=hQ.size;have:=iU.size;omega))⟩
        ·have XY:¬(12:Int)<(n:Int):=by omega
         have Hk:Hid (aR s=none):=(an J4).trans (if_neg hn);go_enter func122,ntmps122;go_wp2_with fail;refine hV.mono ?_;rintro e w1 ⟨rfl,dJ⟩;have yq:=hR.later dJ;go_wp2_with fail;refine(hO w1 yq).mono ?_;rintro e w2 ⟨rfl,cC⟩;have J3:=yq.later cC;go_wp2_with fail;refine(Ym w2 J3).mono ?_;rintro e w3 ⟨rfl,hQ⟩;have hR3:=J3.later hQ;go_wp2_with fail;refine(hD w3).mono ?_;rintro e wx ⟨rfl,dE⟩;have dE:=dE.symm;subst dE;go_wp2_with fail;refine(hP w3 hR3).mono ?_;rintro e w4 ⟨rfl,iU⟩;go_wp2_with fail;refine(hN w4).mono ?_;rintro e w5 ⟨rfl,pos,hw5⟩
         have qR:Below w4.heap.size w4 w5:=by rw[hw5];exact(Below.refl _ _).alloc (Nat.le_refl _) _
         clear hw5
         go_wp2
         go_ret;exact⟨by rw[an Hk];rfl,(((dJ.trans (cC.mono dJ.size)).trans (hQ.mono (by have:=dJ.size;have:=cC.size;omega))).trans (iU.mono (by have:=dJ.size;have:=cC.size;have:=hQ.size;omega))).trans (qR.mono (by have:=dJ.size;have:=cC.size;have:=hQ.size;have:=iU.size;omega))⟩
open Go.Shelf
def lays146_ren:Go.Shelf.Ren:=⟨fun | 138=>243 | 143=>244 | 146=>149 | 195=>184 | 197=>230 | 217=>278 | 218=>276 | 219=>277 | 221=>207 | 224=>251 | 225=>252 | 260=>267 | 266=>287 | 267=>286 | 268=>254 | 314=>293|n=>n,fun | 31=>168 | 46=>167 | 51=>214 | 105=>298 | 119=>293 | 138=>295 | 139=>296 | 146=>259 | 0=>0 | 3=>3 | 4=>4 | 5=>5 | 9=>9 | 21=>21|n=>n,fun | 1=>0 | 3=>3 | 4=>4|n=>n⟩
theorem lays146:Lays.n146 prog lays146_ren:={
 mixed:=by kernel_rfl
 f138:=ad func243
 f143:=ad func244
 f146:=ad func149
 f195:=ad func184
 f197:=ad func230
 f217:=ad func278
 f218:=ad func276
 f219:=ad func277
 f221:=ad func207
 f224:=ad func251
 f225:=ad func252
 f260:=ad func267
 f266:=ad func287
 f267:=ad func286
 f268:=ad func254
 f314:=ad func293
 t0:=underlying0
 a0:=isAgg0
 z0:=sizeOf0
 v0:=zeroValue0
 t3:=underlying3
 a3:=isAgg3
 z3:=sizeOf3
 v3:=zeroValue3
 t4:=underlying4
 a4:=isAgg4
 z4:=sizeOf4
 v4:=zeroValue4
 t5:=underlying5
 a5:=isAgg5
 z5:=sizeOf5
 v5:=zeroValue5
 t9:=underlying9
 a9:=isAgg9
 z9:=sizeOf9
 v9:=zeroValue9
 t21:=underlying21
 a21:=isAgg21
 z21:=sizeOf21
 v21:=zeroValue21
 t31:=underlying168
 a31:=isAgg168
 z31:=sizeOf168
 v31:=zeroValue168
 t46:=underlying167
 a46:=isAgg167
 z46:=sizeOf167
 v46:=zeroValue167
 t51:=underlying214
 a51:=isAgg214
 z51:=sizeOf214
 v51:=zeroValue214
 t105:=underlying298
 a105:=isAgg298
 z105:=sizeOf298
 v105:=zeroValue298
 t119:=underlying293
 a119:=isAgg293
 z119:=sizeOf293
 t138:=underlying295
 a138:=isAgg295
 z138:=sizeOf295
 v138:=zeroValue295
 t139:=underlying296
 a139:=isAgg296
 z139:=sizeOf296
 v139:=zeroValue296
 t146:=underlying259
 a146:=isAgg259
 z146:=sizeOf259
 v146:=zeroValue259
 g1:=by kernel_rfl
 g3:=by kernel_rfl
 g4:=by kernel_rfl}
def lays99_ren:Go.Shelf.Ren:=⟨fun | 99=>129 | 206=>180|n=>n,fun | 3=>3 | 4=>4 | 9=>9|n=>n,fun|n=>n⟩
theorem lays99:Lays.n99 prog lays99_ren:={
 mixed:=by kernel_rfl
 f99:=ad func129
 f206:=ad func180
 t3:=underlying3
 a3:=isAgg3
 z3:=sizeOf3
 v3:=zeroValue3
 t4:=underlying4
 a4:=isAgg4
 z4:=sizeOf4
 v4:=zeroValue4
 t9:=underlying9
 a9:=isAgg9
 z9:=sizeOf9
 v9:=zeroValue9}
theorem ZU:(prog.info? 9).map (fun i=>(i.zero,i.size,i.bytes))=some (some (.string ByteArray.empty),1,16):=by kernel_rfl
theorem Ac (s sep:ByteArray) (m:Int) (w:World) (hs:s.size<4294967281) (hm:w.cell? ⟨0,0,none⟩=some (.int .i64 m)) (h1:1<=sep.size):
 Calls prog 149 #[.string s,.string sep] w fun e w'=>
  e=.returned (.slice (some ⟨w.heap.size,0,none⟩) (Lib.countB s sep+1) (Lib.countB s sep+1))/\w'=w.alloc (.cells ((Lib.splitB sep 0 (Lib.countB s sep) s).map Value.string).toArray 9):=
 Any.strings_Split lays146 ZU s sep m w hs hm h1
theorem za (s p:ByteArray) (w:World):
 Calls prog 129 #[.string s,.string p] w fun e w'=>e=.returned (.bool (Lib.hasPrefix s.data.toList p.data.toList))/\w'=w:=Any.strings_HasPrefix lays99 s p w
end Go.Proofs.YtphcnmlbieokoaaGreatDoor
namespace Go.Proofs.YtphcnmlbieokoaaGreatDoor.T
open Go.RowKit List Go.Proofs.Tryz
def kJ (s:ByteArray):List ByteArray:=Lib.splitB ⟨#[47]⟩ 0 (Lib.countB s ⟨#[47]⟩) s
noncomputable def iv:List ByteArray->Option Int
 |[]=>none
 |p::l=>if jO p then iv l else match aR p with|none=>iv l|some k=>some k
noncomputable def fW (s:ByteArray):Except Int (List ByteArray):=
 if 80<s.size then .error 2
 else if Lib.hasPrefix s.data.toList [47]=false then .error 3
 else if (s.toList==[47])=true then .ok []
 else if 6<(kJ (s.extract 1 s.size)).length then .error 2
 else match iv (kJ (s.extract 1 s.size))with|some k=>.error k|none=>.ok (kJ (s.extract 1 s.size))
def vZ (s:ByteArray) (w:World) (e:Ending) (w':World):Prop:=
 Below w.heap.size w w'/\match fW s with
  |.error k=>e=.returned (.tuple #[.slice none 0 0,.iface 88 (.int .i64 k)])
  |.ok []=>e=.returned (.tuple #[.slice none 0 0,.nilIface])
  |.ok (p::l)=>∃b,e=.returned (.tuple #[.slice (some ⟨b,0,none⟩) (l.length+1) (l.length+1),.nilIface])/\w.heap.size<=b/\w'.heap[b]? = some (.cells ((p::l).map Value.string).toArray 9)
theorem nZ {s:ByteArray} {w w':World} {e:Ending} {k:Int} (hk:fW s=.error k) (hb:Below w.heap.size w w') (he:e=.returned (.tuple #[.slice none 0 0,.iface 88 (.int .i64 k)])):vZ s w e w':=by
 refine⟨hb,?_⟩;rw[hk];exact he
theorem xS (sep:ByteArray):∀(k:Nat) (s:ByteArray),∀p∈Lib.splitB sep 0 k s,p.size<=s.size
 | 0,s,p,hp=>by rw[Lib.splitB_zero]at hp;simp at hp;rw[hp];exact Nat.le_refl _
 |k+1,s,p,hp=>by
  unfold Lib.splitB at hp
  split at hp
  ·simp at hp;rw[hp];exact Nat.le_refl _
  ·rcases mem_cons.1 hp with rfl|hp
   ·rw[ByteArray.size_extract];omega
   ·have:=xS sep k _ p hp;rw[ByteArray.size_extract]at this;omega
theorem GG {s p:ByteArray} (h:p∈kJ s):p.size<=s.size:=xS _ _ _ _ h
theorem ua (s:ByteArray):(kJ s).length=Lib.countB s ⟨#[47]⟩+1:=Lib.splitB_all ⟨#[47]⟩ (by decide) 0 _ s rfl
theorem x9 (s:ByteArray) (w:World) (hR:bF w) (hs:s.size<=4000000000):
 Calls prog 95 #[.string s] w fun e w'=>vZ s w e w':=by
 by_cases h1:80<s.size
 ·have h1z:(80:Int)<(s.size:Int):=by omega
  have Hk:Hid (fW s=.error 2):=by show _=_;unfold fW;rw[if_pos h1]
  go_enter func95,ntmps95
  go_wp2
  refine bodyPost_ret (results_tmp2 rfl _ _ _) rfl ?_;exact nZ (an Hk) (Below.refl _ _) rfl
 ·have h1z:¬(80:Int)<(s.size:Int):=by omega
  have hP:=fun wx=>za s ⟨#[47]⟩ wx
  cases h2:Lib.hasPrefix s.data.toList [47]with
  |false=>
   have Hk:Hid (fW s=.error 3):=by show _=_;unfold fW;rw[if_neg h1,if_pos h2]
   simp only[h2]at hP;clear h2;go_enter func95,ntmps95;go_wp2_with fail;refine(hP w).mono ?_;rintro e wx ⟨rfl,dE⟩;have dE:=dE.symm;subst dE
   go_wp2
   refine bodyPost_ret (results_tmp2 rfl _ _ _) rfl ?_;exact nZ (an Hk) (Below.refl _ _) rfl
  |true=>
   have rX:1<=s.size:=by
    rw[Lib.size_eq];unfold Lib.hasPrefix at h2
    cases hd:s.data.toList with
    |nil=>rw[hd]at h2;cases h2
    |cons a l=>simp
   have H2:Hid (Lib.hasPrefix s.data.toList [47]=true):=h2;simp only[h2]at hP;clear h2
   cases h3:(s.toList==[47])with
   |true=>
    have Hk:Hid (fW s=.ok []):=by show _=_;unfold fW;rw[if_neg h1,if_neg (by rw[an H2];simp),if_pos h3]
    go_enter func95,ntmps95;go_wp2_with fail;refine(hP w).mono ?_;rintro e wx ⟨rfl,dE⟩;have dE:=dE.symm;subst dE
    go_wp2
    refine bodyPost_ret (results_tmp2 rfl _ _ _) rfl ?_;refine⟨Below.refl _ _,?_⟩;rw[an Hk];exact rfl
   |false=>
    obtain⟨m,hm⟩:=hR.mx;have hS:=Ac (s.extract 1 s.size) ⟨#[47]⟩ m w (by rw[ByteArray.size_extract];omega) hm (by decide);rw[<-ua,show Lib.splitB ⟨#[47]⟩ 0 (Lib.countB (s.extract 1 s.size) ⟨#[47]⟩) (s.extract 1 s.size)=kJ (s.extract 1 s.size)from rfl]at hS
    have Hk:Hid (∀l,kJ (s.extract 1 s.size)=l->fW s=if 6<l.length then .error 2 else match iv l with|some k=>.error k|none=>.ok l):=fun l hl=>by subst hl;unfold fW;rw[if_neg h1,if_neg (by rw[an H2];simp),if_neg (by rw[h3];simp)]
    have dr:1<=(kJ (s.extract 1 s.size)).length:=by rw[ua];omega
    have hlen:(kJ (s.extract 1 s.size)).length<=100:=by rw[ua];have h4:=Lib.countB_le ⟨#[47]⟩ (by decide) (s.extract 1 s.size).size (s.extract 1 s.size) (Nat.le_refl _);rw[ByteArray.size_extract]at h4;omega
    have gP:∀p∈kJ (s.extract 1 s.size),p.size<=9223372036854775807:=fun p hp=>by have:=GG hp;rw[ByteArray.size_extract]at this;omega
    obtain⟨l,hl⟩:=aa (kJ (s.extract 1 s.size));have Uf:=aq (an Hk l hl);rw[hl]at hS dr hlen gP;clear Hk H2 hl hs;obtain⟨w1,iD⟩:=aa (w.alloc (.cells (l.map Value.string).toArray 9));have dJ:Below w.heap.size w w1:=by rw[<-iD];exact(Below.refl _ _).alloc (Nat.le_refl _) _
    have dW:w1.heap[w.heap.size]? = some (.cells (l.map Value.string).toArray 9):=by rw[<-iD];exact heap_alloc_new w _
    have fE:w1.heap.size=w.heap.size+1:=by rw[<-iD];simp
    rw[iD]at hS;obtain⟨B,hB⟩:=aa w.heap.size;rw[hB]at hS dW fE;obtain⟨n,hn⟩:=aa l.length;rw[hn]at hS dr hlen;have Pw:=aq gP;have HR:=aq hR;have TF:=aq dJ;have HS:=aq hS;have zl:=aq dW;clear gP hR dJ hS dW iD
    by_cases h6:6<n
    ·have h6z:(6:Int)<(n:Int):=by omega
     go_enter func95,ntmps95;go_wp2_with fail;refine(hP w).mono ?_;rintro e wx ⟨rfl,dE⟩;have dE:=dE.symm;subst dE;go_wp2_with fail;refine(an HS).mono ?_;rintro e wx ⟨rfl,dE⟩;have dE:=dE.symm;subst dE
     go_wp2
     refine bodyPost_ret (results_tmp2 rfl _ _ _) rfl ?_;exact nZ ((an Uf).trans (by rw[hn,if_pos h6])) (an TF) rfl
    ·have h6z:¬(6:Int)<(n:Int):=by omega
     have Hk3:Hid (fW s=match iv l with|some k=>.error k|none=>.ok l):=(an Uf).trans (by rw[hn,if_neg h6]);clear Uf;go_enter func95,ntmps95;go_wp2_with fail;refine(hP w).mono ?_;rintro e wx ⟨rfl,dE⟩;have dE:=dE.symm;subst dE;go_wp2_with fail;refine(an HS).mono ?_;rintro e wx ⟨rfl,dE⟩;have dE:=dE.symm;subst dE;go_wp2_with fail;clear hP HS
     go_loopg [30] (n+1) (fun k i wr=>∃j:Nat,j<=n/\k=n+1-j/\i=.int .i64 j/\Hid (Below w1.heap.size w1 wr)/\Hid (iv l=iv (l.drop j)))
     case atStart=>exact⟨0,by omega,rfl,rfl,Below.refl _ _,rfl⟩
     case round=>
      obtain⟨j,hj,hk,rfl,Hbw,He⟩:=hrel
      by_cases PX:j<n
      ·have MB:(j:Int)<(n:Int):=by omega
       have Gg:j<l.length:=by omega
       obtain⟨p,hp⟩:∃p,l[j]? = some p:=⟨l[j],by simp[Gg]⟩
       have c0:wr.cell? ⟨B,j,none⟩=some (.string p):=by have h7:wr.heap[B]? = some (.cells (l.map Value.string).toArray 9):=((an Hbw).block B (by omega)).trans (an zl);rw[cell_of_row _ _ _ _ _ _ h7];simp[hp]
       have hRr:bF wr:=((an HR).later (an TF)).later (an Hbw);have hD:=BB p wr;have hC:=BJ p wr hRr (an Pw p (mem_of_getElem? hp))
       have je:l.drop j=p::l.drop (j+1):=by
        rw[drop_eq_getElem_cons Gg];have:l[j]=p:=by have:=List.getElem?_eq_some_iff.1 hp;exact this.2
        rw[this]
       have Hd:Hid (iv (l.drop j)=if jO p=true then iv (l.drop (j+1))else match aR p with|none=>iv (l.drop (j+1))|some k=>some k):=by show _=_;rw[je];rfl
       change Calls prog 150 #[.string p] wr fun e w'=>e=.returned (.bool (jO p))/\w'=wr at hD
       have HC:=aq hC;clear hC je hp hRr
       cases hd:jO p with
       |true=>
        rw[hd]at hD Hd;clear hd;go_wp2_with fail;refine hD.mono ?_;rintro e wx ⟨rfl,dE⟩;have dE:=dE.symm;subst dE
        go_wp2
        go_roundg (n-j)
        case measure=>omega
        case rel=>exact⟨j+1,by omega,by omega,by simp,Hbw,(an He).trans (an Hd)⟩
       |false=>
        rw[hd]at hD Hd;clear hd
        cases hc:aR p with
        |none=>
         rw[hc]at HC Hd;clear hc;go_wp2_with fail;refine hD.mono ?_;rintro e wx ⟨rfl,dE⟩;have dE:=dE.symm;subst dE;go_wp2_with fail;refine(an HC).mono ?_;rintro e w3 ⟨rfl,hQ⟩;have q9:Hid (Below w1.heap.size w1 w3):=(an Hbw).trans (hQ.mono (an Hbw).size);clear hQ;simp only[bH]
         go_wp2
         go_roundg (n-j)
         case measure=>omega
         case rel=>exact⟨j+1,by omega,by omega,by simp,q9,(an He).trans (an Hd)⟩
        |some k=>
         rw[hc]at HC Hd;clear hc;go_wp2_with fail;refine hD.mono ?_;rintro e wx ⟨rfl,dE⟩;have dE:=dE.symm;subst dE;go_wp2_with fail;refine(an HC).mono ?_;rintro e w3 ⟨rfl,hQ⟩;have q9:Hid (Below w1.heap.size w1 w3):=(an Hbw).trans (hQ.mono (an Hbw).size);clear hQ;simp only[bH]
         go_wp2
         refine bodyPost_ret (results_tmp2 rfl _ _ _) rfl ?_;refine nZ ((an Hk3).trans (by rw[an He,an Hd];rfl)) ((an TF).trans ((an q9).mono (by omega))) rfl
      ·have MB:¬(j:Int)<(n:Int):=by omega
       go_wp2
       refine bodyPost_ret (results_tmp2 rfl _ _ _) rfl ?_;refine⟨(an TF).trans ((an Hbw).mono (by omega)),?_⟩;have nR:iv l=none:=by rw[an He,drop_eq_nil_of_le (by omega)];rfl
       rw[an Hk3,nR]
       cases l with
       |nil=>simp at hn;omega
       |cons p l=>simp at hn;subst hn;exact⟨B,rfl,by omega,((an Hbw).block B (by omega)).trans (an zl)⟩
section
variable {w0 w w':World} {fb mb:Nat} {N:List NV} {F:aC} {ar:Int} {l2:List aI}
theorem aJ.size (h:aJ w0 w fb mb N F ar l2):w0.heap.size<=w.heap.size:=by
 obtain⟨rs,_,H⟩:=h;exact H.size
theorem aJ.step (h:aJ w0 w fb mb N F ar l2) (hb:Below w.heap.size w w'):aJ w0 w' fb mb N F ar l2:=by
 obtain⟨rs,hr,H⟩:=h;exact⟨rs,hr,aw.below H hb⟩
theorem aJ.drew (h:aJ w0 w fb mb N F ar l2):aJ w0 w.drew fb mb N F ar l2:=by
 obtain⟨rs,hr,H⟩:=h;exact⟨rs,hr,H.drew⟩
theorem aJ.alloc (h:aJ w0 w fb mb N F ar l2) (o:Obj):aJ w0 (w.alloc o) fb mb N F ar l2:=by
 obtain⟨rs,hr,H⟩:=h;exact⟨rs,hr,H.alloc o⟩
theorem aJ.conv {l3:List aI} (h:aJ w0 w fb mb N F ar l2) (ht:∀x,total l3 x<=total l2 x) (hs:(∀r∈l2,r.Sat w0.heap.size w)->∀r∈l3,r.Sat w0.heap.size w):aJ w0 w fb mb N F ar l3:=by
 obtain⟨rs,hr,H⟩:=h;refine⟨rs,hr,H.conv (fun x=>?_) fun r hr=>?_⟩
 ·have:=ht x;simp only[ax,ay];omega
 ·simp only[mem_cons,mem_append]at hr
  rcases hr with h|h|h|h
  ·exact H.sat r (by simp[h])
  ·exact H.sat r (by simp[h])
  ·exact H.sat r (by simp[h])
  ·exact hs (fun q hq=>H.sat q (by simp[hq])) r h
theorem aJ.aY (h:aJ w0 w fb mb N F ar l2) (t:TypeId) (vs:List Value):aJ w0 (w.alloc (.cells vs.toArray t)) fb mb N F ar (.cell w.heap.size t vs::l2):=by
 obtain⟨rs,hr,H⟩:=h;have H1:=H.aY (H.size) t vs;refine⟨rs,hr,H1.conv (fun x=>?_) fun r hr=>H1.sat r ?_⟩
 ·simp only[ax,ay];omega
 ·simp only[mem_cons,mem_append]at hr ⊢
  rcases hr with h|h|h|h|h<;>simp[h]
theorem aJ.ZO (h:aJ w0 w fb mb N F ar l2) (t:TypeId) (vs:List Value):aJ w0 (w.drew.alloc (.cells vs.toArray t)) fb mb N F ar (.cell w.heap.size t vs::l2):=h.drew.aY t vs
theorem aJ.found (h:aJ w0 w fb mb N F ar l2) (hb:Below w.heap.size w w') {b:Nat} {t:TypeId} {vs:List Value} (h1:w.heap.size<=b) (h2:w'.heap[b]? = some (.cells vs.toArray t)):aJ w0 w' fb mb N F ar (.cell b t vs::l2):=by
 obtain⟨rs,hr,H⟩:=h;have hs:=H.size;have H1:=H.new (r:=.cell b t vs) (Kept.iH hb) ⟨by omega,h2⟩ (fun x hx=>by obtain rfl:=one_pos.1 hx;exact h1) (one_le b);refine⟨rs,hr,H1.conv (fun x=>?_) fun r hr=>H1.sat r ?_⟩
 ·simp only[ax,ay];omega
 ·simp only[mem_cons,mem_append]at hr ⊢
  rcases hr with h|h|h|h|h<;>simp[h]
theorem aJ.store (l1:List aI) {b:Nat} {t:TypeId} {vs:List Value} (h:aJ w0 w fb mb N F ar (l1++.cell b t vs::l2)) (j:Nat) (u:Value) (Nj:List Value) (he:vs.set j u=Nj):aJ w0 (w.setCell ⟨b,j,none⟩ u) fb mb N F ar (l1++.cell b t Nj::l2):=by
 obtain⟨rs,hr,H⟩:=h;have e:∀vs,(.cell fb 126 [.map (some mb),.int .i64 ar]::.obj mb (bU N)::(rs++(l1++.cell b t vs::l2)):List aI)=(.cell fb 126 [.map (some mb),.int .i64 ar]::.obj mb (bU N)::(rs++l1))++.cell b t vs::l2:=fun vs=>by simp
 rw[e]at H;refine⟨rs,hr,?_⟩;rw[e];exact H.store _ j u Nj he
theorem aJ.aD (l1:List aI) {r:aI} (h:aJ w0 w fb mb N F ar (l1++r::l2)):aJ w0 w fb mb N F ar (l1++l2):=
 h.conv (fun x=>by simp only[ay,ax];omega) fun hs q hq=>hs q (by simp only[mem_append,mem_cons]at hq ⊢;rcases hq with h|h<;>simp[h])
theorem aJ.cellAt (h:aJ w0 w fb mb N F ar l2) {b:Nat} {t:TypeId} {vs:List Value} (hm:aI.cell b t vs∈l2) {j:Nat} {v:Value} (hv:vs[j]? = some v):w.cell? ⟨b,j,none⟩=some v:=by
 obtain⟨rs,_,H⟩:=h;exact H.cellAt (t:=t) (vs:=vs) (by simp[hm]) hv
theorem aJ.frozenAt (h:aJ w0 w fb mb N F ar l2) {b:Nat} {t:TypeId} {vs:List Value} (hm:aI.cell b t vs∈l2) (j:Nat):w.frozen? ⟨b,j,none⟩=false:=by
 obtain⟨rs,_,H⟩:=h;exact H.frozenAt (t:=t) (vs:=vs) (by simp[hm]) j
theorem aJ.cw (h:aJ w0 w fb mb N F ar l2) {b:Nat} {t:TypeId} {vs:List Value} (hm:aI.cell b t vs∈l2):w.heap[b]? = some (.cells vs.toArray t):=by
 obtain⟨rs,_,H⟩:=h;exact(H.sat (.cell b t vs) (by simp[hm])).2
theorem aJ.kP (h:aJ w0 w fb mb N F ar l2):w.cell? ⟨fb,0,none⟩=some (.map (some mb)):=by
 obtain⟨rs,_,H⟩:=h;exact H.cellAt (t:=126) (vs:=[.map (some mb),.int .i64 ar]) (by simp) rfl
theorem aJ.ni (h:aJ w0 w fb mb N F ar l2):w.cell? ⟨fb,1,none⟩=some (.int .i64 ar):=by
 obtain⟨rs,_,H⟩:=h;exact H.cellAt (t:=126) (vs:=[.map (some mb),.int .i64 ar]) (by simp) rfl
theorem aJ.wW (h:aJ w0 w fb mb N F ar l2):aI.Sat w0.heap.size w (.obj mb (bU N)):=by
 obtain⟨rs,_,H⟩:=h;exact H.sat _ (by simp)
theorem aJ.look (h:aJ w0 w fb mb N F ar l2) {i:Int} (hi:kg i) (W:World) (hW:W.heap=w.heap):(Instr.lookup 124 (.map (some mb)) (.int .i64 i) false).run prog W=.ok (bW N i).val W:=by
 refine Q4 (au:=w0.heap.size) (N:=N) ?_ hi;obtain⟨h1,o,h2,h3⟩:=h.wW;exact⟨h1,o,by rw[hW];exact h2,h3⟩
theorem aJ.below (h:aJ w0 w fb mb N F ar l2):Below w0.heap.size w0 w:=by
 obtain⟨rs,_,H⟩:=h;exact H0.below H
theorem aJ.ready (h:aJ w0 w fb mb N F ar l2) (hR:bF w0):bF w:=hR.later h.below
theorem aJ.mP (h:aJ w0 w fb mb N F ar l2) {b:Nat} {a0 a1 a2 a3 a4 a5:Value} (hm:aI.cell b 107 [a0,a1,a2,a3,a4,a5]∈l2):w.cell? ⟨b,0,none⟩=some a0/\w.cell? ⟨b,1,none⟩=some a1/\w.cell? ⟨b,2,none⟩=some a2/\w.cell? ⟨b,3,none⟩=some a3/\w.cell? ⟨b,4,none⟩=some a4/\w.cell? ⟨b,5,none⟩=some a5/\w.frozen? ⟨b,0,none⟩=false/\w.frozen? ⟨b,1,none⟩=false/\w.frozen? ⟨b,2,none⟩=false/\w.frozen? ⟨b,3,none⟩=false/\w.frozen? ⟨b,4,none⟩=false/\w.frozen? ⟨b,5,none⟩=false:=
 ⟨h.cellAt hm (j:=0) rfl,h.cellAt hm (j:=1) rfl,h.cellAt hm (j:=2) rfl,h.cellAt hm (j:=3) rfl,h.cellAt hm (j:=4) rfl,h.cellAt hm (j:=5) rfl,h.frozenAt hm 0,h.frozenAt hm 1,h.frozenAt hm 2,h.frozenAt hm 3,h.frozenAt hm 4,h.frozenAt hm 5⟩
theorem aJ.iu (l1:List aI) {b:Nat} {a0 a1 a2 a3 a4 a5:Value} (h:aJ w0 w fb mb N F ar (l1++.cell b 107 [a0,a1,a2,a3,a4,a5]::l2)) (x0 x1 x2 x3 x4 x5:Value):aJ w0 ((((((w.setCell ⟨b,0,none⟩ x0).setCell ⟨b,1,none⟩ x1).setCell ⟨b,2,none⟩ x2).setCell ⟨b,3,none⟩ x3).setCell ⟨b,4,none⟩ x4).setCell ⟨b,5,none⟩ x5) fb mb N F ar (l1++.cell b 107 [x0,x1,x2,x3,x4,x5]::l2):=
 ((((((h.store l1 0 x0 [x0,a1,a2,a3,a4,a5] rfl).store l1 1 x1 [x0,x1,a2,a3,a4,a5] rfl).store l1 2 x2 [x0,x1,x2,a3,a4,a5] rfl).store l1 3 x3 [x0,x1,x2,x3,a4,a5] rfl).store l1 4 x4 [x0,x1,x2,x3,x4,a5] rfl).store l1 5 x5 [x0,x1,x2,x3,x4,x5] rfl)
theorem aJ.eight (h:aJ w0 w fb mb N F ar l2) {b:Nat} {a0 a1 a2 a3 a4 a5 a6 a7:Value} (hm:aI.cell b 131 [a0,a1,a2,a3,a4,a5,a6,a7]∈l2):w.cell? ⟨b,0,none⟩=some a0/\w.cell? ⟨b,1,none⟩=some a1/\w.cell? ⟨b,2,none⟩=some a2/\w.cell? ⟨b,3,none⟩=some a3/\w.cell? ⟨b,4,none⟩=some a4/\w.cell? ⟨b,5,none⟩=some a5/\w.cell? ⟨b,6,none⟩=some a6/\w.cell? ⟨b,7,none⟩=some a7/\w.frozen? ⟨b,0,none⟩=false/\w.frozen? ⟨b,1,none⟩=false/\w.frozen? ⟨b,2,none⟩=false/\w.frozen? ⟨b,3,none⟩=false/\w.frozen? ⟨b,4,none⟩=false/\w.frozen? ⟨b,5,none⟩=false/\w.frozen? ⟨b,6,none⟩=false/\w.frozen? ⟨b,7,none⟩=false:=
 ⟨h.cellAt hm (j:=0) rfl,h.cellAt hm (j:=1) rfl,h.cellAt hm (j:=2) rfl,h.cellAt hm (j:=3) rfl,h.cellAt hm (j:=4) rfl,h.cellAt hm (j:=5) rfl,h.cellAt hm (j:=6) rfl,h.cellAt hm (j:=7) rfl,h.frozenAt hm 0,h.frozenAt hm 1,h.frozenAt hm 2,h.frozenAt hm 3,h.frozenAt hm 4,h.frozenAt hm 5,h.frozenAt hm 6,h.frozenAt hm 7⟩
theorem aJ.gN (l1:List aI) {b:Nat} {a0 a1 a2 a3 a4 a5 a6 a7:Value} (h:aJ w0 w fb mb N F ar (l1++.cell b 131 [a0,a1,a2,a3,a4,a5,a6,a7]::l2)) (x0 x1 x2 x3 x4 x5 x6 x7:Value):aJ w0 ((((((((w.setCell ⟨b,0,none⟩ x0).setCell ⟨b,1,none⟩ x1).setCell ⟨b,2,none⟩ x2).setCell ⟨b,3,none⟩ x3).setCell ⟨b,4,none⟩ x4).setCell ⟨b,5,none⟩ x5).setCell ⟨b,6,none⟩ x6).setCell ⟨b,7,none⟩ x7) fb mb N F ar (l1++.cell b 131 [x0,x1,x2,x3,x4,x5,x6,x7]::l2):=
 ((((((((h.store l1 0 x0 [x0,a1,a2,a3,a4,a5,a6,a7] rfl).store l1 1 x1 [x0,x1,a2,a3,a4,a5,a6,a7] rfl).store l1 2 x2 [x0,x1,x2,a3,a4,a5,a6,a7] rfl).store l1 3 x3 [x0,x1,x2,x3,a4,a5,a6,a7] rfl).store l1 4 x4 [x0,x1,x2,x3,x4,a5,a6,a7] rfl).store l1 5 x5 [x0,x1,x2,x3,x4,x5,a6,a7] rfl).store l1 6 x6 [x0,x1,x2,x3,x4,x5,x6,a7] rfl).store l1 7 x7 [x0,x1,x2,x3,x4,x5,x6,x7] rfl)
theorem aJ.two (h:aJ w0 w fb mb N F ar l2) {b:Nat} {a0 a1:Value} (hm:aI.cell b 100 [a0,a1]∈l2):w.cell? ⟨b,0,none⟩=some a0/\w.cell? ⟨b,1,none⟩=some a1/\w.frozen? ⟨b,0,none⟩=false/\w.frozen? ⟨b,1,none⟩=false:=
 ⟨h.cellAt hm (j:=0) rfl,h.cellAt hm (j:=1) rfl,h.frozenAt hm 0,h.frozenAt hm 1⟩
theorem aJ.wN (l1:List aI) {b:Nat} {a0 a1:Value} (h:aJ w0 w fb mb N F ar (l1++.cell b 100 [a0,a1]::l2)) (x0 x1:Value):aJ w0 ((w.setCell ⟨b,0,none⟩ x0).setCell ⟨b,1,none⟩ x1) fb mb N F ar (l1++.cell b 100 [x0,x1]::l2):=
 ((h.store l1 0 x0 [x0,a1] rfl).store l1 1 x1 [x0,x1] rfl)
theorem cS {fn:Func} {p u:Tmp} (h:fn.results=#[.cell p 107,.tmp u]) (tmps:Array Value) (w:World) (g:Nat) (a b c d e f:Value) {v:Value}
 (hp:tmps.getD p undef=.pointer (some ⟨g,0,none⟩)) (AW:tmps.getD u undef=v) (hg:w.heap[g]? = some (.cells #[a,b,c,d,e,f] 107 (0,0))):
 (results fn tmps).run prog w=.ok (.tuple #[.agg #[a,b,c,d,e,f],v]) w:=by
 have hr:=run_loadVar_row (P:=prog) w g 107 107 #[a,b,c,d,e,f] (0,0) _ hg underlying107 rfl (by kernel_rfl);rw[results_cell_tmp h,hp,AW];simp[asAddr,hr]
theorem dX {fn:Func} {p u:Tmp} (h:fn.results=#[.cell p 131,.tmp u]) (tmps:Array Value) (w:World) (g:Nat) (a b c d e f x y:Value) {v:Value}
 (hp:tmps.getD p undef=.pointer (some ⟨g,0,none⟩)) (AW:tmps.getD u undef=v) (hg:w.heap[g]? = some (.cells #[a,b,c,d,e,f,x,y] 131 (0,0))):
 (results fn tmps).run prog w=.ok (.tuple #[.agg #[a,b,c,d,e,f,x,y],v]) w:=by
 have hr:=run_loadVar_row (P:=prog) w g 131 131 #[a,b,c,d,e,f,x,y] (0,0) _ hg underlying131 rfl (by kernel_rfl);rw[results_cell_tmp h,hp,AW];simp[asAddr,hr]
end
section
noncomputable def dP (s:ByteArray):ByteArray:=kOf (ir s)
def uQ (p:ByteArray):Prop:=jO p=true∨aR p=none
noncomputable def fR (N:List NV) (F:aC) (v:NV) (part:ByteArray):Except Int NV:=
 if v.aA≠1 then .error 7
 else if (part.toList==[46])=true then .ok v
 else if (part.toList==[46,46])=true then .ok (bW N v.up)
 else match cF (bp F v) (dP part)with|none=>.error 5|some it=>.ok (bW N it.aN)
def GU:Except Int NV->NV
 |.ok v=>v
 |.error _=>NV.zero
def QE:Except Int NV->Option Int
 |.ok _=>none
 |.error k=>some k
def zv (r:Except Int NV):Value:=.tuple #[(GU r).val,bH (QE r)]
def VN (F:aC) (v:NV):Prop:=(v.aA=1->∃tb,v.tb=some tb/\tb∈F.map (·.1))/\kg v.up
variable (w0 w:World) (fb mb:Nat) (N:List NV) (F:aC) (ar:Int) (l2:List aI) (v:NV) (part:ByteArray)
def cZ (r:Except Int NV) (e:Ending) (w':World):Prop:=e=.returned (zv r)/\aJ w0 w' fb mb N F ar l2
theorem o8 (h:aJ w0 w fb mb N F ar l2) (hk:v.aA≠1):
 Calls prog 151 #[.pointer (some ⟨fb,0,none⟩),v.val,.string part] w fun e w'=>cZ w0 fb mb N F ar l2 (fR N F v part) e w':=by
 have mW:Hid (fR N F v part=.error 7):=by show _=_;unfold fR;rw[if_pos hk]
 obtain⟨B,hB⟩:=aa w.heap.size;have h1:=(h.aY 107 [.int .i64 v.id,.int .i64 v.aA,.int .i64 v.up,.int .i64 v.aB,.string v.aL,.pointer v.ptr]).aY 107 [.int .i64 0,.int .i64 0,.int .i64 0,.int .i64 0,.string ⟨#[]⟩,.pointer none];have hz:(w.alloc (.cells [.int .i64 v.id,.int .i64 v.aA,.int .i64 v.up,.int .i64 v.aB,.string v.aL,.pointer v.ptr].toArray 107)).heap.size=B+1:=by simp[hB]
 rw[hz,hB]at h1;clear hz;have hf:=fun wx=>eQ v wx
 rw[show(v.aA==1)=false by simpa using hk]at hf;clear hk;have H1:=aq h1;have Hf:=aq hf;clear h1 hf h;unfold NV.val at Hf ⊢;go_enter func151,ntmps151;go_wp2_with fail;refine(an Hf _).mono ?_;rintro e w2 ⟨rfl,cC⟩;have h2:=(an H1).step cC;clear cC H1 Hf hB;obtain⟨k0,k1,k2,k3,k4,k5,f0,f1,f2,f3,f4,f5⟩:=h2.mP (b:=B+1) ae;have H2:=aq h2;clear h2
 go_wp2
 have h3:=(an H2).iu [] (.int .i64 0) (.int .i64 0) (.int .i64 0) (.int .i64 0) (.string ⟨#[]⟩) (.pointer none);refine bodyPost_ret (cS (p:=6) (u:=7) rfl _ _ (B+1) _ _ _ _ _ _ rfl rfl (h3.cw (t:=107) ae)) rfl ?_;exact⟨by rw[an mW];rfl,(h3.aD []).aD []⟩
theorem Nq (h:aJ w0 w fb mb N F ar l2) (hk:v.aA=1) (hp:(part.toList==[46])=true):
 Calls prog 151 #[.pointer (some ⟨fb,0,none⟩),v.val,.string part] w fun e w'=>cZ w0 fb mb N F ar l2 (fR N F v part) e w':=by
 have mW:Hid (fR N F v part=.ok v):=by show _=_;unfold fR;rw[if_neg (by rw[hk];simp),if_pos hp]
 obtain⟨B,hB⟩:=aa w.heap.size;have h1:=(h.aY 107 [.int .i64 v.id,.int .i64 v.aA,.int .i64 v.up,.int .i64 v.aB,.string v.aL,.pointer v.ptr]).aY 107 [.int .i64 0,.int .i64 0,.int .i64 0,.int .i64 0,.string ⟨#[]⟩,.pointer none];have hz:(w.alloc (.cells [.int .i64 v.id,.int .i64 v.aA,.int .i64 v.up,.int .i64 v.aB,.string v.aL,.pointer v.ptr].toArray 107)).heap.size=B+1:=by simp[hB]
 rw[hz,hB]at h1;clear hz;have hf:=fun wx=>eQ v wx
 rw[show(v.aA==1)=true by simp[hk]]at hf;clear hk;have H1:=aq h1;have Hf:=aq hf;clear h1 hf h;unfold NV.val at Hf ⊢;go_enter func151,ntmps151;go_wp2_with fail;refine(an Hf _).mono ?_;rintro e w2 ⟨rfl,cC⟩;have h2:=(an H1).step cC;clear cC H1 Hf hB;obtain⟨k0,k1,k2,k3,k4,k5,f0,f1,f2,f3,f4,f5⟩:=h2.mP (b:=B+1) ae;obtain⟨b0,b1,b2,b3,b4,b5,_⟩:=h2.mP (b:=B) af;have H2:=aq h2;clear h2
 go_wp2
 have h3:=(an H2).iu [] (.int .i64 v.id) (.int .i64 v.aA) (.int .i64 v.up) (.int .i64 v.aB) (.string v.aL) (.pointer v.ptr);refine bodyPost_ret (cS (p:=6) (u:=7) rfl _ _ (B+1) _ _ _ _ _ _ rfl rfl (h3.cw (t:=107) ae)) rfl ?_;exact⟨by rw[an mW];rfl,(h3.aD []).aD []⟩
theorem Ur (h:aJ w0 w fb mb N F ar l2) (hk:v.aA=1) (XW:(part.toList==[46])=false) (hp:(part.toList==[46,46])=true) (hu:kg v.up):
 Calls prog 151 #[.pointer (some ⟨fb,0,none⟩),v.val,.string part] w fun e w'=>cZ w0 fb mb N F ar l2 (fR N F v part) e w':=by
 have mW:Hid (fR N F v part=.ok (bW N v.up)):=by show _=_;unfold fR;rw[if_neg (by rw[hk];simp),if_neg (by rw[XW];simp),if_pos hp]
 obtain⟨B,hB⟩:=aa w.heap.size;have h1:=(h.aY 107 [.int .i64 v.id,.int .i64 v.aA,.int .i64 v.up,.int .i64 v.aB,.string v.aL,.pointer v.ptr]).aY 107 [.int .i64 0,.int .i64 0,.int .i64 0,.int .i64 0,.string ⟨#[]⟩,.pointer none];have hz:(w.alloc (.cells [.int .i64 v.id,.int .i64 v.aA,.int .i64 v.up,.int .i64 v.aB,.string v.aL,.pointer v.ptr].toArray 107)).heap.size=B+1:=by simp[hB]
 rw[hz,hB]at h1;clear hz;have hf:=fun wx=>eQ v wx
 rw[show(v.aA==1)=true by simp[hk]]at hf;clear hk;have H1:=aq h1;have Hf:=aq hf;clear h1 hf h;unfold NV.val at Hf ⊢;go_enter func151,ntmps151;go_wp2_with fail;refine(an Hf _).mono ?_;rintro e w2 ⟨rfl,cC⟩;have h2:=(an H1).step cC;clear cC H1 Hf hB;obtain⟨k0,k1,k2,k3,k4,k5,f0,f1,f2,f3,f4,f5⟩:=h2.mP (b:=B+1) ae;obtain⟨b0,b1,b2,b3,b4,b5,_⟩:=h2.mP (b:=B) af;have q0:=h2.kP;have lj:=h2.look hu w2.drew rfl;generalize bW N v.up=u at lj mW;unfold NV.val at lj;have H2:=aq h2;clear h2 hu;go_wp2_with fail
 go_region
 all_goals go_wp2_with fail
 have h3:=((an H2).iu [] (.int .i64 u.id) (.int .i64 u.aA) (.int .i64 u.up) (.int .i64 u.aB) (.string u.aL) (.pointer u.ptr)).drew;refine bodyPost_ret (cS (p:=6) (u:=7) rfl _ _ (B+1) _ _ _ _ _ _ rfl rfl (h3.cw (t:=107) ae)) rfl ?_;exact⟨by rw[an mW];rfl,(h3.aD []).aD []⟩
def Sj:Option aG->ByteArray
 |some x=>x.name
 |none=>⟨#[]⟩
def Sk:Option aG->Int
 |some x=>x.aN
 |none=>0
theorem zA (g:Option aG):OQ g=.tuple #[.agg #[.string (Sj g),.int .i64 (Sk g)],.bool g.isSome]:=by cases g<;>rfl
theorem sQ {p:ByteArray} (hp:aR p=none) (wx:World) (hR:bF wx):Calls prog 91 #[.string p] wx fun e w'=>e=.returned (.string (dP p))/\Below wx.heap.size wx w':=by
 obtain⟨hn,he,_⟩:=iR hp;have:=Iv (ir p) wx hR hn.keyed;rw[<-he]at this;exact this
theorem Us (hR:bF w0) (h:aJ w0 w fb mb N F ar l2) (hF:Fits N F ar) (hk:v.aA=1) (tb:Nat) (jh:v.tb=some tb) (ht:tb∈F.map (·.1)) (XW:(part.toList==[46])=false) (Dm:(part.toList==[46,46])=false) (hp:aR part=none):
 Calls prog 151 #[.pointer (some ⟨fb,0,none⟩),v.val,.string part] w fun e w'=>cZ w0 fb mb N F ar l2 (fR N F v part) e w':=by
 have MF:bp F v=aX F tb:=by unfold bp;rw[jh]
 have mW:Hid (fR N F v part=match cF (aX F tb) (dP part)with|none=>.error 5|some it=>.ok (bW N it.aN)):=by show _=_;unfold fR;rw[if_neg (by rw[hk];simp),if_neg (by rw[XW];simp),if_neg (by rw[Dm];simp),MF]
 have zx:v.ptr=some ⟨tb,0,none⟩:=by unfold NV.ptr;rw[jh];rfl
 obtain⟨B,hB⟩:=aa w.heap.size;have h1:=(h.aY 107 [.int .i64 v.id,.int .i64 v.aA,.int .i64 v.up,.int .i64 v.aB,.string v.aL,.pointer v.ptr]).aY 107 [.int .i64 0,.int .i64 0,.int .i64 0,.int .i64 0,.string ⟨#[]⟩,.pointer none];have hz:(w.alloc (.cells [.int .i64 v.id,.int .i64 v.aA,.int .i64 v.up,.int .i64 v.aB,.string v.aL,.pointer v.ptr].toArray 107)).heap.size=B+1:=by simp[hB]
 rw[hz,hB]at h1;clear hz;have hf:=fun wx=>eQ v wx
 rw[show(v.aA==1)=true by simp[hk]]at hf;clear hk MF jh
 have A3:∀it,cF (aX F tb) (dP part)=some it->kg it.aN:=fun it hg=>by have:=hF.gA _ (dh ht) it (mem_of_find?_eq_some hg);exact il (by omega) (by omega)
 have hK:∀wx l,aJ w0 wx fb mb N F ar l->
  Calls prog 91 #[.string part] wx fun e w'=>e=.returned (.string (dP part))/\aJ w0 w' fb mb N F ar l:=fun wx l hx=>
  (sQ hp wx (hx.ready hR)).mono fun e w' ⟨he,hb⟩=>⟨he,hx.step hb⟩
 have hG:∀wx l,aJ w0 wx fb mb N F ar l->
  Calls prog 118 #[.pointer (some ⟨tb,0,none⟩),.string (dP part)] wx fun e w'=>e=.returned (OQ (cF (aX F tb) (dP part)))/\aJ w0 w' fb mb N F ar l:=fun wx l hx=>by
  obtain⟨rest,hT,jv⟩:=hx.uW ht;exact(DA _ _ _ wx tb _ rest (dP part) hT).mono fun e w' ⟨he,hT'⟩=>⟨he,jv w' hT'⟩
 simp only[zA]at hG;generalize cF (aX F tb) (dP part)=g at A3 hG mW;obtain⟨nm,Mu⟩:=aa (Sj g);obtain⟨nd,y8⟩:=aa (Sk g);obtain⟨bb,qD⟩:=aa g.isSome;rw[Mu,y8,qD]at hG;have M6:=aq y8;have Tt:=aq qD;clear Mu y8 qD;generalize dP part=az at hK hG;unfold NV.val at hf ⊢;rw[zx]at h1 hf ⊢;clear zx;have HK:=aq hK;have HG:=aq hG;have Hnd:=aq A3;clear hK hG A3 hF ht hp hR;have H1:=aq h1;have Hf:=aq hf;clear h1 hf h;go_enter func151,ntmps151;go_wp2_with fail
 refine(an Hf _).mono ?_;rintro e w2 ⟨rfl,cC⟩;have h2:=(an H1).step cC;clear cC H1 Hf hB;obtain⟨k0,k1,k2,k3,k4,k5,f0,f1,f2,f3,f4,f5⟩:=h2.mP (b:=B+1) ae;obtain⟨b0,b1,b2,b3,b4,b5,_⟩:=h2.mP (b:=B) af;have b6:∀o,(w2.alloc o).cell? ⟨B,5,none⟩=some (.pointer (some ⟨tb,0,none⟩)):=fun o=>Lib.cell?_alloc_some o b5
 have H2:=aq h2;clear h2 b0 b1 b2 b3 b4 k0 k1 k2 k3 k4 k5 f0 f1 f2 f3 f4 f5;go_wp2_with fail
 go_cut [8,9]from 29 to 36 (fun a8 a9 wc=>∃eb:Nat,a8=.pointer (some ⟨eb,0,none⟩)/\a9=.bool bb/\Hid (aJ w0 wc fb mb N F ar (.cell eb 100 [.string nm,.int .i64 nd]::.cell (B+1) 107 [.int .i64 0,.int .i64 0,.int .i64 0,.int .i64 0,.string ⟨#[]⟩,.pointer none]::.cell B 107 [.int .i64 v.id,.int .i64 v.aA,.int .i64 v.up,.int .i64 v.aB,.string v.aL,.pointer (some ⟨tb,0,none⟩)]::l2)))
 case first=>
  go_region_with (first|(go_at_call 91;(first|refine(an HK _ _ (an H2).drew).mono ?_|refine(an HK _ _ ((an H2).ZO 100 [.string ⟨#[]⟩,.int .i64 0])).mono ?_);rintro e w3 ⟨rfl,h3⟩;(first|obtain⟨_,_,_,_,_,d5,_⟩:=h3.mP (b:=B) af|obtain⟨_,_,_,_,_,d5,_⟩:=h3.mP (b:=B) ag);have d6:∀o,(w3.alloc o).cell? ⟨B,5,none⟩=some (.pointer (some ⟨tb,0,none⟩)):=fun o=>Lib.cell?_alloc_some o d5;have H3:=aq h3;clear h3)|(go_at_call 118;(first|refine(an HG _ _ (an H3)).mono ?_|refine(an HG _ _ ((an H3).aY 100 [.string ⟨#[]⟩,.int .i64 0])).mono ?_);rintro e w4 ⟨rfl,h4⟩;(first|obtain⟨e0,e1,g0,g1⟩:=h4.two ae|skip);have H4:=aq h4;clear h4))
  all_goals (go_wp2_with fail;go_meet;first|exact⟨_,rfl,rfl,(an H4).wN [] (.string nm) (.int .i64 nd)⟩|exact⟨_,rfl,rfl,(an H4).aY 100 [.string nm,.int .i64 nd]⟩|exact⟨_,rfl,rfl,((an H4).aY 100 [.string ⟨#[]⟩,.int .i64 0]).wN [] (.string nm) (.int .i64 nd)⟩)
 case rest=>
  obtain⟨eb,rfl,rfl,H5⟩:=hcut;clear H2 b5 b6 HK HG;have h5:=an H5;obtain⟨k0,k1,k2,k3,k4,k5,f0,f1,f2,f3,f4,f5⟩:=h5.mP (b:=B+1) af
  cases g with
  |none=>
   have hb:bb=false:=(an Tt).symm;subst hb;clear h5
   go_wp2
   have h6:=(an H5).iu [.cell eb 100 [.string nm,.int .i64 nd]] (.int .i64 0) (.int .i64 0) (.int .i64 0) (.int .i64 0) (.string ⟨#[]⟩) (.pointer none);refine bodyPost_ret (cS (p:=6) (u:=7) rfl _ _ (B+1) _ _ _ _ _ _ rfl rfl (h6.cw (t:=107) af)) rfl ?_;exact⟨by rw[an mW];rfl,((h6.aD []).aD []).aD []⟩
  |some it=>
   have hb:bb=true:=(an Tt).symm;subst hb;have hi:it.aN=nd:=an M6;have lj:=h5.look (i:=nd) (by rw[<-hi];exact an Hnd it rfl) wc.drew rfl;have q0:=h5.kP;obtain⟨e0,e1,_⟩:=h5.two (b:=eb) ae;have abQ:Hid (fR N F v part=.ok (bW N nd)):=by rw[<-hi];exact an mW
   generalize bW N nd=u at lj abQ;unfold NV.val at lj;clear h5 hi mW;go_wp2_with fail
   go_region
   all_goals go_wp2_with fail
   have h6:=((an H5).iu [.cell eb 100 [.string nm,.int .i64 nd]] (.int .i64 u.id) (.int .i64 u.aA) (.int .i64 u.up) (.int .i64 u.aB) (.string u.aL) (.pointer u.ptr)).drew;refine bodyPost_ret (cS (p:=6) (u:=7) rfl _ _ (B+1) _ _ _ _ _ _ rfl rfl (h6.cw (t:=107) af)) rfl ?_;exact⟨by rw[an abQ];rfl,((h6.aD []).aD []).aD []⟩
theorem qd (hR:bF w0) (h:aJ w0 w fb mb N F ar l2) (hF:Fits N F ar) (hv:VN F v) (hp:uQ part):
 Calls prog 151 #[.pointer (some ⟨fb,0,none⟩),v.val,.string part] w fun e w'=>cZ w0 fb mb N F ar l2 (fR N F v part) e w':=by
 by_cases hk:v.aA=1
 ·cases h1:(part.toList==[46])
  ·cases h2:(part.toList==[46,46])
   ·obtain⟨tb,jh,ht⟩:=hv.1 hk
    have hc:aR part=none:=by
     rcases hp with hp|hp
     ·unfold jO at hp;rw[h1,h2]at hp
      cases hp
     ·exact hp
    exact Us w0 w fb mb N F ar l2 v part hR h hF hk tb jh ht h1 h2 hc
   ·exact Ur w0 w fb mb N F ar l2 v part h hk h1 h2 hv.2
  ·exact Nq w0 w fb mb N F ar l2 v part h hk h1
 ·exact o8 w0 w fb mb N F ar l2 v part h hk
end
section
noncomputable def jk (N:List NV) (F:aC):NV->List ByteArray->Except Int NV
 |v,[]=>.ok v
 |v,p::l=>match fR N F v p with | .ok u=>jk N F u l | .error k=>.error k
def YE (l2:List aI) (v:Value) (l:List ByteArray):Prop:=
 (v=.slice none 0 0/\l=[])∨∃(pb c:Nat) (L:List ByteArray),v=.slice (some ⟨pb,0,none⟩) l.length c/\l=L.take l.length/\aI.cell pb 9 (L.map Value.string)∈l2
theorem Ql (F:aC):VN F NV.zero:=⟨fun h=>by simp[NV.zero]at h,il (by simp[NV.zero]) (by simp[NV.zero])⟩
theorem Fits.Za {N:List NV} {F:aC} {ar:Int} (h:Fits N F ar) (i:Int):VN F (bW N i):=by
 unfold bW
 cases hf:bq N i with
 |none=>exact Ql F
 |some v=>have hv:=(dm hf).1;exact⟨fun hk=>h.tree v hv hk,il (by have:=h.up v hv;show _<=v.up;omega) (by have:=h.up v hv;show v.up<=_;omega)⟩
theorem Qs {N:List NV} {F:aC} {ar:Int} (h:Fits N F ar) {v u:NV} (hv:VN F v) {p:ByteArray} (he:fR N F v p=.ok u):VN F u:=by
 unfold fR at he
 split at he
 ·cases he
 split at he
 ·cases he;exact hv
 split at he
 ·cases he;exact h.Za _
 split at he
 ·cases he
 ·cases he;exact h.Za _
variable (w0 w:World) (fb mb:Nat) (N:List NV) (F:aC) (ar:Int) (l2:List aI)
theorem j8 (u:NV):zv (.ok u)=.tuple #[.agg #[.int .i64 u.id,.int .i64 u.aA,.int .i64 u.up,.int .i64 u.aB,.string u.aL,.pointer u.ptr],.nilIface]:=rfl
theorem gv (k:Int):zv (.error k)=.tuple #[.agg #[.int .i64 0,.int .i64 0,.int .i64 0,.int .i64 0,.string ⟨#[]⟩,.pointer none],.iface 88 (.int .i64 k)]:=rfl
theorem tW (hR:bF w0) (h:aJ w0 w fb mb N F ar l2) (hF:Fits N F ar) (pv:Option Addr) (n c:Nat) (l:List ByteArray) (hl:l.length=n) (hn:n<=100) (hs:YE l2 (.slice pv n c) l) (hp:∀p∈l,uQ p):
 Calls prog 96 #[.pointer (some ⟨fb,0,none⟩),.slice pv n c] w fun e w'=>cZ w0 fb mb N F ar l2 (jk N F (bW N 1) l) e w':=by
 obtain⟨B,hB⟩:=aa w.heap.size;have h1:=h.aY 107 [.int .i64 0,.int .i64 0,.int .i64 0,.int .i64 0,.string ⟨#[]⟩,.pointer none];have lj:∀o,(Instr.lookup 124 (.map (some mb)) (.int .i64 1) false).run prog (w.alloc o)=.ok (bW N 1).val (w.alloc o):=fun o=>(h.alloc o).look (i:=1) (il (by omega) (by omega)) _ rfl
 have q0:=h.kP;have q1:∀o,(w.alloc o).cell? ⟨fb,0,none⟩=some (.map (some mb)):=fun o=>(h.alloc o).kP
 obtain⟨u0,hu0⟩:=aa (bW N 1);have qN:VN F u0:=by rw[<-hu0];exact hF.Za 1
 rw[hu0]at lj ⊢;unfold NV.val at lj;have h2:=h1.aY 107 [.int .i64 u0.id,.int .i64 u0.aA,.int .i64 u0.up,.int .i64 u0.aB,.string u0.aL,.pointer u0.ptr];have hz:(w.alloc (.cells [.int .i64 0,.int .i64 0,.int .i64 0,.int .i64 0,.string ⟨#[]⟩,.pointer none].toArray 107)).heap.size=B+1:=by simp[hB]
 rw[hz,hB]at h2;have H2:=aq h2;have HF:=aq hF;have Hv0:=aq qN;have HS:=aq hs;have HP:=aq hp;have HR:=aq hR;have Hl:=aq hl;clear h1 h2 h hF qN hu0 hs hp hR hz hl;go_enter func96,ntmps96;go_wp2_with fail
 go_loopg [17] (n+1) (fun k i wr=>∃(j:Nat) (u:NV),j<=n/\k=n+1-j/\i=.int .i64 j/\Hid (VN F u)/\Hid (jk N F u0 l=jk N F u (l.drop j))/\Hid (aJ w0 wr fb mb N F ar (.cell (B+1) 107 [.int .i64 u.id,.int .i64 u.aA,.int .i64 u.up,.int .i64 u.aB,.string u.aL,.pointer u.ptr]::.cell B 107 [.int .i64 0,.int .i64 0,.int .i64 0,.int .i64 0,.string ⟨#[]⟩,.pointer none]::l2)))
 case atStart=>exact⟨0,u0,by omega,rfl,rfl,Hv0,rfl,H2⟩
 case round=>
  obtain⟨j,u,hj,hk,rfl,Hv,Hw,HH⟩:=hrel;clear H2 Hv0 lj q0 q1;have h3:=an HH;obtain⟨k0,k1,k2,k3,k4,k5,f0,f1,f2,f3,f4,f5⟩:=h3.mP (b:=B+1) ae
  by_cases PX:j<n
  ·have MB:(j:Int)<(n:Int):=by omega
   rcases an HS with⟨e1,e2⟩|⟨pb,c',L,e1,e2,hm⟩
   ·exact absurd (an Hl) (by rw[e2];simp;omega)
   ·have hpv:pv=some ⟨pb,0,none⟩:=by have:=an Hl;rw[this]at e1;cases e1;rfl
    subst hpv;have Gg:j<l.length:=by rw[an Hl];exact PX
    obtain⟨p,hp⟩:∃p,l[j]? = some p:=⟨l[j],by simp[Gg]⟩
    have hpL:L[j]? = some p:=by
     have h8:(L.take l.length)[j]? = some p:=by rw[<-e2];exact hp
     rw[getElem?_take,if_pos Gg]at h8;exact h8
    have c0:wr.cell? ⟨pb,j,none⟩=some (.string p):=h3.cellAt (t:=9) (.tail _ (.tail _ hm)) (by simp[hpL])
    have je:l.drop j=p::l.drop (j+1):=by rw[drop_eq_getElem_cons Gg];have:l[j]=p:=(List.getElem?_eq_some_iff.1 hp).2;rw[this]
    have hC:=qd w0 wr fb mb N F ar _ u p (an HR) h3 (an HF) (an Hv) (an HP p (mem_of_getElem? hp));have Hw2:Hid (jk N F u0 l=match fR N F u p with | .ok x=>jk N F x (l.drop (j+1)) | .error k=>.error k):=(an Hw).trans (by rw[je];rfl);have Ch:Hid (∀x,fR N F u p=.ok x->VN F x):=fun x hx=>Qs (an HF) (an Hv) hx
    unfold NV.val at hC;have HC:=aq hC;clear hC je hp hpL h3 e1 e2 hm Hw
    cases hr:fR N F u p with
    |ok x=>
     rw[hr]at HC Hw2 Ch;have Hx:Hid (VN F x):=an Ch x rfl;clear hr Ch;simp only[cZ,j8]at HC;go_wp2_with fail;refine(an HC).mono ?_;rintro e w3 ⟨rfl,h4⟩;obtain⟨g0,g1,g2,g3,g4,g5,o0,o1,o2,o3,o4,o5⟩:=h4.mP (b:=B+1) ae;have H4:=aq h4;clear h4 k0 k1 k2 k3 k4 k5 f0 f1 f2 f3 f4 f5 c0
     go_wp2
     go_roundg (n-j)
     case measure=>omega
     case rel=>exact⟨j+1,x,by omega,by omega,by simp,Hx,Hw2,(an H4).iu [] _ _ _ _ _ _⟩
    |error k=>
     rw[hr]at HC Hw2;clear hr Ch;simp only[cZ,gv]at HC;go_wp2_with fail;refine(an HC).mono ?_;rintro e w3 ⟨rfl,h4⟩;obtain⟨g0,g1,g2,g3,g4,g5,o0,o1,o2,o3,o4,o5⟩:=h4.mP (b:=B+1) ae;obtain⟨y0,y1,y2,y3,y4,y5,r0,r1,r2,r3,r4,r5⟩:=h4.mP (b:=B) af;have H4:=aq h4;clear h4 k0 k1 k2 k3 k4 k5 f0 f1 f2 f3 f4 f5 c0
     go_wp2
     have h5:=((an H4).iu [] (.int .i64 0) (.int .i64 0) (.int .i64 0) (.int .i64 0) (.string ⟨#[]⟩) (.pointer none)).iu [.cell (B+1) 107 [.int .i64 0,.int .i64 0,.int .i64 0,.int .i64 0,.string ⟨#[]⟩,.pointer none]] (.int .i64 0) (.int .i64 0) (.int .i64 0) (.int .i64 0) (.string ⟨#[]⟩) (.pointer none);refine bodyPost_ret (cS (p:=4) (u:=5) rfl _ _ B _ _ _ _ _ _ rfl rfl (h5.cw (t:=107) af)) rfl ?_;exact⟨by rw[an Hw2];rfl,(h5.aD []).aD []⟩
  ·have MB:¬(j:Int)<(n:Int):=by omega
   obtain⟨y0,y1,y2,y3,y4,y5,r0,r1,r2,r3,r4,r5⟩:=h3.mP (b:=B) af;clear h3
   go_wp2
   have h5:=(an HH).iu [.cell (B+1) 107 [.int .i64 u.id,.int .i64 u.aA,.int .i64 u.up,.int .i64 u.aB,.string u.aL,.pointer u.ptr]] (.int .i64 u.id) (.int .i64 u.aA) (.int .i64 u.up) (.int .i64 u.aB) (.string u.aL) (.pointer u.ptr);refine bodyPost_ret (cS (p:=4) (u:=5) rfl _ _ B _ _ _ _ _ _ rfl rfl (h5.cw (t:=107) af)) rfl ?_;have he:jk N F u0 l=.ok u:=(an Hw).trans (by rw[drop_eq_nil_of_le (by rw[an Hl];omega)];rfl);exact⟨by rw[he];rfl,(h5.aD []).aD []⟩
noncomputable def bX (N:List NV) (F:aC) (s:ByteArray):Except Int NV:=
 match fW s with | .error k=>.error k | .ok l=>jk N F (bW N 1) l
theorem AB {s:ByteArray} {l:List ByteArray} (h:fW s=.ok l):(∀p∈l,uQ p)/\l.length<=6:=by
 unfold fW at h
 split at h
 ·cases h
 split at h
 ·cases h
 split at h
 ·cases h;exact⟨by simp,by simp⟩
 split at h
 ·cases h
 rename_i h6
 split at h
 ·cases h
 rename_i hp
 cases h
 refine⟨?_,by omega⟩
 have az:∀l:List ByteArray,iv l=none->∀p∈l,uQ p:=by
  intro l
  induction l with
  |nil=>intro _;simp
  |cons a l ih=>
   intro hn p hp;unfold iv at hn
   split at hn
   ·rename_i hd
    rcases mem_cons.1 hp with rfl|hp
    ·exact .inl hd
    ·exact ih hn p hp
   ·split at hn
    ·rename_i hc
     rcases mem_cons.1 hp with rfl|hp
     ·exact .inr hc
     ·exact ih hn p hp
    ·cases hn
 exact az _ hp
theorem yy (hR:bF w0) (h:aJ w0 w fb mb N F ar l2) (hF:Fits N F ar) (s:ByteArray) (hs:s.size<=4000000000):
 Calls prog 51 #[.pointer (some ⟨fb,0,none⟩),.string s] w fun e w'=>cZ w0 fb mb N F ar l2 (bX N F s) e w':=by
 obtain⟨B,hB⟩:=aa w.heap.size;have h1:=h.aY 107 [.int .i64 0,.int .i64 0,.int .i64 0,.int .i64 0,.string ⟨#[]⟩,.pointer none];rw[hB]at h1;have hP:=x9 s (w.alloc (.cells [.int .i64 0,.int .i64 0,.int .i64 0,.int .i64 0,.string ⟨#[]⟩,.pointer none].toArray 107)) (h1.ready hR) hs;have rk:Hid (bX N F s=match fW s with | .error k=>.error k | .ok l=>jk N F (bW N 1) l):=rfl;have JH:Hid (∀l,fW s=.ok l->(∀p∈l,uQ p)/\l.length<=6):=fun l hl=>AB hl
 have H1:=aq h1;have HF:=aq hF;have HR:=aq hR;clear h1 h hF hR;unfold vZ at hP
 cases hr:fW s with
 |error k=>
  rw[hr]at hP rk;have HP:=aq hP;clear hP hr JH;go_enter func51,ntmps51;go_wp2_with fail;refine(an HP).mono ?_;rintro e w2 ⟨cC,rfl⟩;have h2:=(an H1).step cC;obtain⟨y0,y1,y2,y3,y4,y5,r0,r1,r2,r3,r4,r5⟩:=h2.mP (b:=B) ae;have H2:=aq h2;clear h2 cC H1 HP hB
  go_wp2
  have h5:=(an H2).iu [] (.int .i64 0) (.int .i64 0) (.int .i64 0) (.int .i64 0) (.string ⟨#[]⟩) (.pointer none);refine bodyPost_ret (cS (p:=4) (u:=5) rfl _ _ B _ _ _ _ _ _ rfl rfl (h5.cw (t:=107) ae)) rfl ?_;exact⟨by rw[an rk];rfl,h5.aD []⟩
 |ok l=>
  rw[hr]at hP rk;obtain⟨jc,hle⟩:=an JH l hr;have VT:=aq jc;clear jc JH hr
  cases l with
  |nil=>
   have HP:=aq hP;clear hP;go_enter func51,ntmps51;go_wp2_with fail;refine(an HP).mono ?_;rintro e w2 ⟨cC,rfl⟩;have h2:=(an H1).step cC;have hC:=tW w0 w2 fb mb N F ar _ (an HR) h2 (an HF) none 0 0 [] rfl (by omega) (.inl ⟨rfl,rfl⟩) (by simp);have HC:=aq hC;clear h2 cC H1 HP hC hB;generalize jk N F (bW N 1) []=r at HC rk
   cases r with
   |ok x=>
    simp only[cZ,j8]at HC;go_wp2_with fail;refine(an HC).mono ?_;rintro e w3 ⟨rfl,h3⟩;obtain⟨y0,y1,y2,y3,y4,y5,r0,r1,r2,r3,r4,r5⟩:=h3.mP (b:=B) ae;have H3:=aq h3;clear h3 HC
    go_wp2
    have h5:=(an H3).iu [] (.int .i64 x.id) (.int .i64 x.aA) (.int .i64 x.up) (.int .i64 x.aB) (.string x.aL) (.pointer x.ptr);refine bodyPost_ret (cS (p:=4) (u:=5) rfl _ _ B _ _ _ _ _ _ rfl rfl (h5.cw (t:=107) ae)) rfl ?_;exact⟨by rw[an rk];rfl,h5.aD []⟩
   |error k=>
    simp only[cZ,gv]at HC;go_wp2_with fail;refine(an HC).mono ?_;rintro e w3 ⟨rfl,h3⟩;obtain⟨y0,y1,y2,y3,y4,y5,r0,r1,r2,r3,r4,r5⟩:=h3.mP (b:=B) ae;have H3:=aq h3;clear h3 HC
    go_wp2
    have h5:=(an H3).iu [] (.int .i64 0) (.int .i64 0) (.int .i64 0) (.int .i64 0) (.string ⟨#[]⟩) (.pointer none);refine bodyPost_ret (cS (p:=4) (u:=5) rfl _ _ B _ _ _ _ _ _ rfl rfl (h5.cw (t:=107) ae)) rfl ?_;exact⟨by rw[an rk];rfl,h5.aD []⟩
  |cons p l=>
   have HP:=aq hP;clear hP;go_enter func51,ntmps51;go_wp2_with fail;refine(an HP).mono ?_;rintro e w2 ⟨cC,b,rfl,hb,dW⟩;have h2:=(an H1).found cC hb dW;have hC:=tW w0 w2 fb mb N F ar _ (an HR) h2 (an HF) (some ⟨b,0,none⟩) (l.length+1) (l.length+1) (p::l) (by simp) (by simp at hle;omega) (.inr ⟨b,l.length+1,p::l,by simp,by simp,.head _⟩) (an VT);have HC:=aq hC;obtain⟨n,hn⟩:=aa (l.length+1);rw[hn]at HC ⊢;clear h2 cC H1 HP hC hB hb dW hn hle;generalize jk N F (bW N 1) (p::l)=r at HC rk
   cases r with
   |ok x=>
    simp only[cZ,j8]at HC;go_wp2_with fail;refine(an HC).mono ?_;rintro e w3 ⟨rfl,h3⟩;obtain⟨y0,y1,y2,y3,y4,y5,r0,r1,r2,r3,r4,r5⟩:=h3.mP (b:=B) af;have H3:=aq h3;clear h3 HC
    go_wp2
    have h5:=(an H3).iu [_] (.int .i64 x.id) (.int .i64 x.aA) (.int .i64 x.up) (.int .i64 x.aB) (.string x.aL) (.pointer x.ptr);refine bodyPost_ret (cS (p:=4) (u:=5) rfl _ _ B _ _ _ _ _ _ rfl rfl (h5.cw (t:=107) af)) rfl ?_;exact⟨by rw[an rk];rfl,(h5.aD []).aD []⟩
   |error k=>
    simp only[cZ,gv]at HC;go_wp2_with fail;refine(an HC).mono ?_;rintro e w3 ⟨rfl,h3⟩;obtain⟨y0,y1,y2,y3,y4,y5,r0,r1,r2,r3,r4,r5⟩:=h3.mP (b:=B) af;have H3:=aq h3;clear h3 HC
    go_wp2
    have h5:=(an H3).iu [_] (.int .i64 0) (.int .i64 0) (.int .i64 0) (.int .i64 0) (.string ⟨#[]⟩) (.pointer none);refine bodyPost_ret (cS (p:=4) (u:=5) rfl _ _ B _ _ _ _ _ _ rfl rfl (h5.cw (t:=107) af)) rfl ?_;exact⟨by rw[an rk];rfl,(h5.aD []).aD []⟩
end
section
structure PL where
 v:NV
 az:ByteArray
 name:ByteArray
def PL.val (p:PL):Value:=.agg #[.int .i64 p.v.id,.int .i64 p.v.aA,.int .i64 p.v.up,.int .i64 p.v.aB,.string p.v.aL,.pointer p.v.ptr,.string p.az,.string p.name]
def PL.zero:PL:=⟨NV.zero,⟨#[]⟩,⟨#[]⟩⟩
variable (w0 w:World) (fb mb:Nat) (N:List NV) (F:aC) (ar:Int) (l2:List aI)
theorem Cm {fn:Func} {p u:Tmp} (h:fn.results=#[.cell p 100,.tmp u]) (tmps:Array Value) (w:World) (g:Nat) (a b:Value) {v:Value}
 (hp:tmps.getD p undef=.pointer (some ⟨g,0,none⟩)) (AW:tmps.getD u undef=v) (hg:w.heap[g]? = some (.cells #[a,b] 100 (0,0))):
 (results fn tmps).run prog w=.ok (.tuple #[.agg #[a,b],v]) w:=rE h tmps w g 100 a b hp AW hg
theorem ug (h:aJ w0 w fb mb N F ar l2) (p:PL) (tb:Nat) (jh:p.v.tb=some tb) (ht:tb∈F.map (·.1)):
 Calls prog 71 #[p.val] w fun e w'=>e=.returned (OQ (cF (aX F tb) p.az))/\aJ w0 w' fb mb N F ar l2:=by
 have zx:p.v.ptr=some ⟨tb,0,none⟩:=by unfold NV.ptr;rw[jh];rfl
 obtain⟨B,hB⟩:=aa w.heap.size;have h1:=(h.aY 131 [.int .i64 p.v.id,.int .i64 p.v.aA,.int .i64 p.v.up,.int .i64 p.v.aB,.string p.v.aL,.pointer (some ⟨tb,0,none⟩),.string p.az,.string p.name]).aY 100 [.string ⟨#[]⟩,.int .i64 0];have hz:(w.alloc (.cells [.int .i64 p.v.id,.int .i64 p.v.aA,.int .i64 p.v.up,.int .i64 p.v.aB,.string p.v.aL,.pointer (some ⟨tb,0,none⟩),.string p.az,.string p.name].toArray 131)).heap.size=B+1:=by simp[hB]
 rw[hz,hB]at h1;obtain⟨rest,hT,jv⟩:=h1.uW ht;have hG:=DA _ _ _ _ tb _ rest p.az hT;simp only[TH,zA]at hG ⊢;obtain⟨nm,Mu⟩:=aa (Sj (cF (aX F tb) p.az));obtain⟨nd,y8⟩:=aa (Sk (cF (aX F tb) p.az));obtain⟨bb,qD⟩:=aa ((cF (aX F tb) p.az).isSome);rw[Mu,y8,qD]at hG ⊢;have HG:=aq hG;have Hb:=aq jv;unfold PL.val;rw[zx];clear Mu y8 qD hG jv zx jh h1 hT hz h;go_enter func71,ntmps71;go_wp2_with fail;refine(an HG).mono ?_;rintro e w2 ⟨rfl,hT2⟩
 have h2:=an Hb _ hT2;obtain⟨e0,e1,g0,g1⟩:=h2.two (b:=B+1) ae;have H2:=aq h2;clear h2 hT2 HG Hb hB
 go_wp2
 have h5:=(an H2).wN [] (.string nm) (.int .i64 nd);refine bodyPost_ret (Cm (p:=2) (u:=3) rfl _ _ (B+1) _ _ rfl rfl (h5.cw (t:=100) ae)) rfl ?_;exact⟨rfl,(h5.aD []).aD []⟩
theorem qj (h:aJ w0 w fb mb N F ar l2) (p:PL) (id:Int) (tb:Nat) (jh:p.v.tb=some tb) (ht:tb∈F.map (·.1)) (hk:p.az.toList.isEmpty=false):
 Calls prog 65 #[p.val,.int .i64 id] w fun e w'=>e=.returned (.tuple #[])/\aJ w0 w' fb mb N (gK F tb (da (aX F tb) ⟨p.az,p.name,id⟩)) ar l2:=by
 have zx:p.v.ptr=some ⟨tb,0,none⟩:=by unfold NV.ptr;rw[jh];rfl
 obtain⟨B,hB⟩:=aa w.heap.size;have h1:=h.aY 131 [.int .i64 p.v.id,.int .i64 p.v.aA,.int .i64 p.v.up,.int .i64 p.v.aB,.string p.v.aL,.pointer (some ⟨tb,0,none⟩),.string p.az,.string p.name];rw[hB]at h1;obtain⟨rest,hT,jv⟩:=h1.tree ht;have hG:=tD _ _ _ _ tb _ ⟨p.az,p.name,id⟩ rest hT hk;simp only[BR]at hG;have HG:=aq hG;have Hb:=aq jv;unfold PL.val;rw[zx];clear hG jv zx jh h1 hT h hk;go_enter func65,ntmps65;go_wp2_with fail;refine(an HG).mono ?_;rintro e w2 ⟨rfl,hT2⟩;have h2:=an Hb _ _ hT2
 have H2:=aq h2;clear h2 hT2 HG Hb hB
 go_wp2
 go_end0
 exact⟨rfl,(an H2).aD []⟩
theorem x8 (h:aJ w0 w fb mb N F ar l2) (p:PL) (tb:Nat) (jh:p.v.tb=some tb) (ht:tb∈F.map (·.1)):
 Calls prog 117 #[p.val] w fun e w'=>e=.returned (.tuple #[])/\aJ w0 w' fb mb N (gK F tb (dv (aX F tb) p.az)) ar l2:=by
 have zx:p.v.ptr=some ⟨tb,0,none⟩:=by unfold NV.ptr;rw[jh];rfl
 obtain⟨B,hB⟩:=aa w.heap.size;have h1:=h.aY 131 [.int .i64 p.v.id,.int .i64 p.v.aA,.int .i64 p.v.up,.int .i64 p.v.aB,.string p.v.aL,.pointer (some ⟨tb,0,none⟩),.string p.az,.string p.name];rw[hB]at h1;obtain⟨rest,hT,jv⟩:=h1.tree ht;have hG:=zT _ _ _ _ tb _ rest p.az hT;simp only[yJ]at hG;obtain⟨bb,qD⟩:=aa ((cF (aX F tb) p.az).isSome);rw[qD]at hG;have HG:=aq hG;have Hb:=aq jv;unfold PL.val;rw[zx];clear hG jv zx jh h1 hT h qD;go_enter func117,ntmps117;go_wp2_with fail
 refine(an HG).mono ?_;rintro e w2 ⟨rfl,hT2⟩;have h2:=an Hb _ _ hT2;have H2:=aq h2;clear h2 hT2 HG Hb hB
 go_wp2
 go_end0
 exact⟨rfl,(an H2).aD []⟩
theorem G4 (p q:PL):
 Calls prog 72 #[p.val,q.val] w fun e w'=>e=.returned (.bool (p.v.id==q.v.id&&p.az.toList==q.az.toList))/\Below w.heap.size w w':=by
 unfold PL.val;generalize p.v.ptr=pp;generalize q.v.ptr=qp
 cases hi:(p.v.id==q.v.id)with
 |false=>
  go_enter func72,ntmps72
  go_wp2
  go_ret;exact⟨rfl,((Below.refl _ _).alloc (Nat.le_refl _) _).alloc (by simp) _⟩
 |true=>
  go_enter func72,ntmps72
  go_wp2
  go_ret;exact⟨by simp,((Below.refl _ _).alloc (Nat.le_refl _) _).alloc (by simp) _⟩
noncomputable def jN (N:List NV) (F:aC) (s:ByteArray):Except Int NV:=
 match bX N F s with | .error k=>.error k | .ok v=>if v.aA≠2 then .error 7 else .ok v
theorem Bp (hR:bF w0) (h:aJ w0 w fb mb N F ar l2) (hF:Fits N F ar) (s:ByteArray) (hs:s.size<=4000000000):
 Calls prog 63 #[.pointer (some ⟨fb,0,none⟩),.string s] w fun e w'=>cZ w0 fb mb N F ar l2 (jN N F s) e w':=by
 obtain⟨B,hB⟩:=aa w.heap.size;have h1:=h.aY 107 [.int .i64 0,.int .i64 0,.int .i64 0,.int .i64 0,.string ⟨#[]⟩,.pointer none];rw[hB]at h1;have hC:=yy w0 _ fb mb N F ar _ hR h1 hF s hs;have rk:Hid (jN N F s=match bX N F s with | .error k=>.error k | .ok v=>if v.aA≠2 then .error 7 else .ok v):=rfl;generalize bX N F s=r at hC rk
 cases r with
 |error k=>
  simp only[cZ,gv]at hC;have HC:=aq hC;clear hC h1 h hF hR;go_enter func63,ntmps63;go_wp2_with fail;refine(an HC).mono ?_;rintro e w2 ⟨rfl,h2⟩;obtain⟨y0,y1,y2,y3,y4,y5,r0,r1,r2,r3,r4,r5⟩:=h2.mP (b:=B) ae;have eO:B<w2.heap.size:=World.block_lt_of_cell? _ _ y0;have H2:=aq h2;clear h2 HC hB
  go_wp2
  have h5:=((an H2).iu [] (.int .i64 0) (.int .i64 0) (.int .i64 0) (.int .i64 0) (.string ⟨#[]⟩) (.pointer none)).aY 107 [.int .i64 0,.int .i64 0,.int .i64 0,.int .i64 0,.string ⟨#[]⟩,.pointer none];refine bodyPost_ret (cS (p:=4) (u:=5) rfl _ _ B _ _ _ _ _ _ rfl rfl (h5.cw (t:=107) af)) rfl ?_;exact⟨by rw[an rk];rfl,(h5.aD []).aD []⟩
 |ok x=>
  simp only[cZ,j8]at hC;have HC:=aq hC;clear hC h1 h hF hR
  by_cases hx:x.aA=2
  ·have me:(x.aA==2)=true:=by simp[hx]
   have nT:Hid (jN N F s=.ok x):=(an rk).trans (by show(if x.aA≠2 then _ else _)=_;rw[if_neg (by rw[hx];simp)]);clear hx rk;go_enter func63,ntmps63;go_wp2_with fail;refine(an HC).mono ?_;rintro e w2 ⟨rfl,h2⟩;obtain⟨y0,y1,y2,y3,y4,y5,r0,r1,r2,r3,r4,r5⟩:=h2.mP (b:=B) ae;have eO:B<w2.heap.size:=World.block_lt_of_cell? _ _ y0;have H2:=aq h2;clear h2 HC hB
   go_wp2
   have h5:=((an H2).iu [] (.int .i64 x.id) (.int .i64 x.aA) (.int .i64 x.up) (.int .i64 x.aB) (.string x.aL) (.pointer x.ptr)).aY 107 [.int .i64 x.id,.int .i64 x.aA,.int .i64 x.up,.int .i64 x.aB,.string x.aL,.pointer x.ptr];refine bodyPost_ret (cS (p:=4) (u:=5) rfl _ _ B _ _ _ _ _ _ rfl rfl (h5.cw (t:=107) af)) rfl ?_;exact⟨by rw[an nT];rfl,(h5.aD []).aD []⟩
  ·have me:(x.aA==2)=false:=by simp[hx]
   have nT:Hid (jN N F s=.error 7):=(an rk).trans (by show(if x.aA≠2 then _ else _)=_;rw[if_pos hx]);clear hx rk;go_enter func63,ntmps63;go_wp2_with fail;refine(an HC).mono ?_;rintro e w2 ⟨rfl,h2⟩;obtain⟨y0,y1,y2,y3,y4,y5,r0,r1,r2,r3,r4,r5⟩:=h2.mP (b:=B) ae;have eO:B<w2.heap.size:=World.block_lt_of_cell? _ _ y0;have H2:=aq h2;clear h2 HC hB
   go_wp2
   have h5:=((an H2).iu [] (.int .i64 0) (.int .i64 0) (.int .i64 0) (.int .i64 0) (.string ⟨#[]⟩) (.pointer none)).aY 107 [.int .i64 x.id,.int .i64 x.aA,.int .i64 x.up,.int .i64 x.aB,.string x.aL,.pointer x.ptr];refine bodyPost_ret (cS (p:=4) (u:=5) rfl _ _ B _ _ _ _ _ _ rfl rfl (h5.cw (t:=107) af)) rfl ?_;exact⟨by rw[an nT];rfl,(h5.aD []).aD []⟩
end
section
noncomputable def dZ (N:List NV) (F:aC) (s:ByteArray):Except Int PL:=
 match fW s with
 |.error k=>.error k
 |.ok []=>.error 3
 |.ok (p::l)=>
  if jO ((p::l).getLast (by simp))=true then .error 3
  else match jk N F (bW N 1) ((p::l).take l.length)with
   |.error k=>.error k
   |.ok u=>if u.aA≠1 then .error 7 else .ok ⟨u,dP ((p::l).getLast (by simp)),(p::l).getLast (by simp)⟩
def adw:Except Int PL->PL
 |.ok v=>v
 |.error _=>PL.zero
def ZK:Except Int PL->Option Int
 |.ok _=>none
 |.error k=>some k
def Az (r:Except Int PL):Value:=.tuple #[(adw r).val,bH (ZK r)]
theorem km (p:PL):Az (.ok p)=.tuple #[.agg #[.int .i64 p.v.id,.int .i64 p.v.aA,.int .i64 p.v.up,.int .i64 p.v.aB,.string p.v.aL,.pointer p.v.ptr,.string p.az,.string p.name],.nilIface]:=rfl
theorem gO (k:Int):Az (.error k)=.tuple #[.agg #[.int .i64 0,.int .i64 0,.int .i64 0,.int .i64 0,.string ⟨#[]⟩,.pointer none,.string ⟨#[]⟩,.string ⟨#[]⟩],.iface 88 (.int .i64 k)]:=rfl
variable (w0 w:World) (fb mb:Nat) (N:List NV) (F:aC) (ar:Int) (l2:List aI)
def fO (r:Except Int PL) (e:Ending) (w':World):Prop:=e=.returned (Az r)/\aJ w0 w' fb mb N F ar l2
theorem rG (hR:bF w0) (h:aJ w0 w fb mb N F ar l2) (hF:Fits N F ar) (s:ByteArray) (hs:s.size<=4000000000):
 Calls prog 69 #[.pointer (some ⟨fb,0,none⟩),.string s] w fun e w'=>fO w0 fb mb N F ar l2 (dZ N F s) e w':=by
 obtain⟨B,hB⟩:=aa w.heap.size;have h1:=h.aY 131 [.int .i64 0,.int .i64 0,.int .i64 0,.int .i64 0,.string ⟨#[]⟩,.pointer none,.string ⟨#[]⟩,.string ⟨#[]⟩];rw[hB]at h1;have hP:=x9 s _ (h1.ready hR) hs;obtain⟨q,hq⟩:=aa (dZ N F s);have rk:=aq hq;have JH:Hid (∀l,fW s=.ok l->(∀p∈l,uQ p)/\l.length<=6):=fun l hl=>AB hl
 rw[hq];have H1:=aq h1;have HF:=aq hF;have HR:=aq hR;clear h1 h hF hR hq;unfold vZ at hP;unfold dZ at rk
 cases hr:fW s with
 |error k=>
  rw[hr]at hP rk;have JV:q=.error k:=(an rk).symm;subst JV;have HP:=aq hP;clear hP hr JH rk;go_enter func69,ntmps69;go_wp2_with fail;refine(an HP).mono ?_;rintro e w2 ⟨cC,rfl⟩;have h2:=(an H1).step cC;obtain⟨y0,y1,y2,y3,y4,y5,y6,y7,r0,r1,r2,r3,r4,r5,r6,r7⟩:=h2.eight (b:=B) ae;have H2:=aq h2;clear h2 cC H1 HP hB
  go_wp2
  have h5:=(an H2).gN [] (.int .i64 0) (.int .i64 0) (.int .i64 0) (.int .i64 0) (.string ⟨#[]⟩) (.pointer none) (.string ⟨#[]⟩) (.string ⟨#[]⟩);refine bodyPost_ret (dX (p:=4) (u:=5) rfl _ _ B _ _ _ _ _ _ _ _ rfl rfl (h5.cw (t:=131) ae)) rfl ?_;exact⟨rfl,h5.aD []⟩
 |ok l=>
  rw[hr]at hP rk;obtain⟨jc,hle⟩:=an JH l hr;have VT:=aq jc;clear jc JH hr
  cases l with
  |nil=>
   have JV:q=.error 3:=(an rk).symm;subst JV;have HP:=aq hP;clear hP rk;go_enter func69,ntmps69;go_wp2_with fail;refine(an HP).mono ?_;rintro e w2 ⟨cC,rfl⟩;have h2:=(an H1).step cC;obtain⟨y0,y1,y2,y3,y4,y5,y6,y7,r0,r1,r2,r3,r4,r5,r6,r7⟩:=h2.eight (b:=B) ae;have H2:=aq h2;clear h2 cC H1 HP hB
   go_wp2
   have h5:=(an H2).gN [] (.int .i64 0) (.int .i64 0) (.int .i64 0) (.int .i64 0) (.string ⟨#[]⟩) (.pointer none) (.string ⟨#[]⟩) (.string ⟨#[]⟩);refine bodyPost_ret (dX (p:=4) (u:=5) rfl _ _ B _ _ _ _ _ _ _ _ rfl rfl (h5.cw (t:=131) ae)) rfl ?_;exact⟨rfl,h5.aD []⟩
  |cons p l=>
   obtain⟨last,Ds⟩:=aa ((p::l).getLast (by simp))
   have nT:Hid ((if jO last=true then(.error 3:Except Int PL)else match jk N F (bW N 1) ((p::l).take l.length)with
    |.error k=>.error k
    |.ok u=>if u.aA≠1 then .error 7 else .ok ⟨u,dP last,last⟩)=q):=by have:=an rk;rw[<-Ds];exact this
   have aaL:uQ last:=an VT last (by rw[<-Ds];exact getLast_mem _)
   have fk:(p::l)[l.length]? = some last:=by
    have h8:(p::l)[(p::l).length-1]'(by simp)=last:=by rw[<-Ds,getLast_eq_getElem]
    rw[<-h8];simp
   have HP:=aq hP;have JK:=aq fk;clear hP rk fk;obtain⟨m,hm⟩:=aa l.length;have hm6:m<=5:=by simp at hle;omega
   have Hm:=aq hm;have hmz:((m:Int)+1-1)=(m:Int):=by omega
   clear hle hm Ds
   cases h46:(last.toList==[46])with
   |true=>
    have JV:q=.error 3:=(an nT).symm.trans (by rw[if_pos (by unfold jO;rw[h46];rfl)]);subst JV;clear nT;go_enter func69,ntmps69;go_wp2_with fail;refine(an HP).mono ?_;rintro e w2 ⟨cC,b,rfl,hb,dW⟩;have h2:=(an H1).found cC hb dW;obtain⟨y0,y1,y2,y3,y4,y5,y6,y7,r0,r1,r2,r3,r4,r5,r6,r7⟩:=h2.eight (b:=B) af;have c0:w2.cell? ⟨b,m,none⟩=some (.string last):=h2.cellAt (t:=9) ae (by rw[<-an Hm,getElem?_map,an JK];rfl);rw[an Hm];clear cC hb dW H1 HP hB;have H2:=aq h2
    clear h2
    go_wp2
    have h5:=(an H2).gN [_] (.int .i64 0) (.int .i64 0) (.int .i64 0) (.int .i64 0) (.string ⟨#[]⟩) (.pointer none) (.string ⟨#[]⟩) (.string ⟨#[]⟩);refine bodyPost_ret (dX (p:=4) (u:=5) rfl _ _ B _ _ _ _ _ _ _ _ rfl rfl (h5.cw (t:=131) af)) rfl ?_;exact⟨rfl,(h5.aD []).aD []⟩
   |false=>
    cases Zr:(last.toList==[46,46])with
    |true=>
     have JV:q=.error 3:=(an nT).symm.trans (by rw[if_pos (by unfold jO;rw[h46,Zr];rfl)]);subst JV;clear nT;go_enter func69,ntmps69;go_wp2_with fail;refine(an HP).mono ?_;rintro e w2 ⟨cC,b,rfl,hb,dW⟩;have h2:=(an H1).found cC hb dW;obtain⟨y0,y1,y2,y3,y4,y5,y6,y7,r0,r1,r2,r3,r4,r5,r6,r7⟩:=h2.eight (b:=B) af;have c0:w2.cell? ⟨b,m,none⟩=some (.string last):=h2.cellAt (t:=9) ae (by rw[<-an Hm,getElem?_map,an JK];rfl);rw[an Hm];clear cC hb dW H1 HP hB;have H2:=aq h2
     clear h2
     go_wp2
     have h5:=(an H2).gN [_] (.int .i64 0) (.int .i64 0) (.int .i64 0) (.int .i64 0) (.string ⟨#[]⟩) (.pointer none) (.string ⟨#[]⟩) (.string ⟨#[]⟩);refine bodyPost_ret (dX (p:=4) (u:=5) rfl _ _ B _ _ _ _ _ _ _ _ rfl rfl (h5.cw (t:=131) af)) rfl ?_;exact⟨rfl,(h5.aD []).aD []⟩
    |false=>
     have hdd:jO last=false:=by unfold jO;rw[h46,Zr];rfl
     have wH:aR last=none:=by
      rcases aaL with hh|hh
      ·rw[hdd]at hh;cases hh
      ·exact hh
     have Hck:=aq wH;have JJ:=aq ((an nT).symm.trans (by rw[if_neg (by rw[hdd];simp)]));clear nT hdd wH aaL;go_enter func69,ntmps69;go_wp2_with fail;refine(an HP).mono ?_;rintro e w2 ⟨cC,b,rfl,hb,dW⟩;have h2:=(an H1).found cC hb dW;obtain⟨y0,y1,y2,y3,y4,y5,y6,y7,r0,r1,r2,r3,r4,r5,r6,r7⟩:=h2.eight (b:=B) af;have c0:w2.cell? ⟨b,m,none⟩=some (.string last):=h2.cellAt (t:=9) ae (by rw[<-an Hm,getElem?_map,an JK];rfl);rw[an Hm];clear cC hb dW H1 HP hB;have hC:=tW w0 w2 fb mb N F ar _ (an HR) h2 (an HF) (some ⟨b,0,none⟩) m (m+1) ((p::l).take m) (by rw[length_take,length_cons,an Hm];omega) (by omega) (.inr ⟨b,m+1,p::l,by rw[length_take,length_cons,an Hm,Nat.min_eq_left (by omega)],by rw[length_take,length_cons,an Hm,Nat.min_eq_left (by omega)],.head _⟩) (fun x hx=>an VT x (mem_of_mem_take hx))
     rw[an Hm]at JJ;have HC:=aq hC;clear hC;generalize jk N F (bW N 1) ((p::l).take m)=r at HC JJ
     cases r with
     |error k=>
      have JV:q=.error k:=an JJ;subst JV;simp only[cZ,gv]at HC;clear JJ h2;go_wp2_with fail;refine(an HC).mono ?_;rintro e w3 ⟨rfl,h3⟩;clear y0 y1 y2 y3 y4 y5 y6 y7 r0 r1 r2 r3 r4 r5 r6 r7 c0;obtain⟨y0,y1,y2,y3,y4,y5,y6,y7,r0,r1,r2,r3,r4,r5,r6,r7⟩:=h3.eight (b:=B) af;have eO:B<w3.heap.size:=World.block_lt_of_cell? _ _ y0;have H3:=aq h3;clear h3 HC
      go_wp2
      have h5:=((an H3).gN [_] (.int .i64 0) (.int .i64 0) (.int .i64 0) (.int .i64 0) (.string ⟨#[]⟩) (.pointer none) (.string ⟨#[]⟩) (.string ⟨#[]⟩)).aY 107 [.int .i64 0,.int .i64 0,.int .i64 0,.int .i64 0,.string ⟨#[]⟩,.pointer none];refine bodyPost_ret (dX (p:=4) (u:=5) rfl _ _ B _ _ _ _ _ _ _ _ rfl rfl (h5.cw (t:=131) ag)) rfl ?_;exact⟨rfl,((h5.aD []).aD []).aD []⟩
     |ok u=>
      simp only[cZ,j8]at HC;have PZ:=fun wx=>eQ u wx
      by_cases hk:u.aA=1
      ·have JV:q=.ok ⟨u,dP last,last⟩:=(an JJ).trans (by show(if u.aA≠1 then _ else _)=_;rw[if_neg (by rw[hk];simp)]);subst JV;rw[show(u.aA==1)=true by simp[hk]]at PZ;unfold NV.val at PZ;have Zx:=aq PZ;clear JJ h2 hk PZ;go_wp2_with fail;refine(an HC).mono ?_;rintro e w3 ⟨rfl,h3⟩;have H4:=aq (h3.aY 107 [.int .i64 u.id,.int .i64 u.aA,.int .i64 u.up,.int .i64 u.aB,.string u.aL,.pointer u.ptr]);clear y0 y1 y2 y3 y4 y5 y6 y7 r0 r1 r2 r3 r4 r5 r6 r7 c0 HC h3;go_wp2_with fail;refine(an Zx _).mono ?_;rintro e w4 ⟨rfl,iU⟩
       have h4:=(an H4).step iU;obtain⟨G,hG⟩:=aa w3.heap.size;rw[hG]at h4 ⊢;obtain⟨y0,y1,y2,y3,y4,y5,y6,y7,r0,r1,r2,r3,r4,r5,r6,r7⟩:=h4.eight (b:=B) ag;obtain⟨z0,z1,z2,z3,z4,z5,_⟩:=h4.mP (b:=G) ae;have c0:w4.cell? ⟨b,m,none⟩=some (.string last):=h4.cellAt (t:=9) af (by rw[<-an Hm,getElem?_map,an JK];rfl);have hK:=sQ (an Hck) w4.drew (h4.drew.ready (an HR));have HK:=aq hK;have H5:=aq h4;clear hK h4 iU H4 hG;go_wp2_with fail
       go_region_with (go_at_call 91;refine(an HK).mono ?_;rintro e w5 ⟨rfl,qR⟩;have h5:=(an H5).drew.step qR;obtain⟨a0,a1,a2,a3,a4,a5,a6,a7,d0,d1,d2,d3,d4,d5,d6,d7⟩:=h5.eight (b:=B) ag;obtain⟨x0,x1,x2,x3,x4,x5,_⟩:=h5.mP (b:=G) ae;have c1:w5.cell? ⟨b,m,none⟩=some (.string last):=h5.cellAt (t:=9) af (by rw[<-an Hm,getElem?_map,an JK];rfl);have H6:=aq h5;clear h5 qR)
       all_goals go_wp2_with fail
       all_goals
        have h6:=(an H6).gN [_,_] (.int .i64 u.id) (.int .i64 u.aA) (.int .i64 u.up) (.int .i64 u.aB) (.string u.aL) (.pointer u.ptr) (.string (dP last)) (.string last);refine bodyPost_ret (dX (p:=4) (u:=5) rfl _ _ B _ _ _ _ _ _ _ _ rfl rfl (h6.cw (t:=131) ag)) rfl ?_;exact⟨rfl,((h6.aD []).aD []).aD []⟩
      ·have JV:q=.error 7:=(an JJ).trans (by show(if u.aA≠1 then _ else _)=_;rw[if_pos hk]);subst JV;rw[show(u.aA==1)=false by simp[hk]]at PZ;unfold NV.val at PZ;have Zx:=aq PZ;clear JJ h2 hk PZ;go_wp2_with fail;refine(an HC).mono ?_;rintro e w3 ⟨rfl,h3⟩;have H4:=aq (h3.aY 107 [.int .i64 u.id,.int .i64 u.aA,.int .i64 u.up,.int .i64 u.aB,.string u.aL,.pointer u.ptr]);clear y0 y1 y2 y3 y4 y5 y6 y7 r0 r1 r2 r3 r4 r5 r6 r7 c0 HC h3;go_wp2_with fail;refine(an Zx _).mono ?_;rintro e w4 ⟨rfl,iU⟩;have h4:=(an H4).step iU
       obtain⟨y0,y1,y2,y3,y4,y5,y6,y7,r0,r1,r2,r3,r4,r5,r6,r7⟩:=h4.eight (b:=B) ag;have H5:=aq h4;clear h4 iU H4
       go_wp2
       have h5:=(an H5).gN [_,_] (.int .i64 0) (.int .i64 0) (.int .i64 0) (.int .i64 0) (.string ⟨#[]⟩) (.pointer none) (.string ⟨#[]⟩) (.string ⟨#[]⟩);refine bodyPost_ret (dX (p:=4) (u:=5) rfl _ _ B _ _ _ _ _ _ _ _ rfl rfl (h5.cw (t:=131) ag)) rfl ?_;exact⟨rfl,((h5.aD []).aD []).aD []⟩
end
section
theorem Qt {N:List NV} {F:aC} {v u:NV} {p:ByteArray} (hv:∃i,v=bW N i) (he:fR N F v p=.ok u):∃i,u=bW N i:=by
 unfold fR at he
 split at he
 ·cases he
 split at he
 ·cases he;exact hv
 split at he
 ·cases he;exact⟨_,rfl⟩
 split at he
 ·cases he
 ·cases he;exact⟨_,rfl⟩
theorem zO {N:List NV} {F:aC}:∀(l:List ByteArray) {v u:NV},(∃i,v=bW N i)->jk N F v l=.ok u->∃i,u=bW N i
 |[],v,u,hv,he=>by cases he;exact hv
 |p::l,v,u,hv,he=>by
  unfold jk at he
  split at he
  ·rename_i x hx
   exact zO l (Qt hv hx) he
  ·cases he
theorem Sq {N:List NV} {F:aC} {s:ByteArray} {u:NV} (he:bX N F s=.ok u):∃i,u=bW N i:=by
 unfold bX at he
 split at he
 ·cases he
 ·exact zO _ ⟨1,rfl⟩ he
theorem vT {N:List NV} {i:Int} {u:NV} (h:u=bW N i) (hk:u.aA≠0):u∈N/\u.id=i:=by
 unfold bW at h
 cases hf:bq N i with
 |none=>rw[hf]at h;subst h;exact absurd rfl hk
 |some v=>rw[hf]at h;have h':u=v:=h;rw[h'];exact dm hf
structure bj (N:List NV) (F:aC) (p:PL):Prop where
 xf:p.v∈N
 aA:p.v.aA=1
 tree:∃tb,p.v.tb=some tb/\tb∈F.map (·.1)
 name:aR p.name=none
 az:p.az=dP p.name
theorem jA {N:List NV} {F:aC} {ar:Int} (hF:Fits N F ar) {s:ByteArray} {p:PL} (h:dZ N F s=.ok p):bj N F p:=by
 unfold dZ at h
 split at h
 ·cases h
 ·cases h
 ·rename_i a l hp
  split at h
  ·cases h
  rename_i hd
  split at h
  ·cases h
  rename_i u hu
  split at h
  ·cases h
  rename_i hk
  have ji:u.aA=1:=by simpa using hk
  cases h
  obtain⟨i,hi⟩:=zO _ ⟨1,rfl⟩ hu;obtain⟨hm,_⟩:=vT hi (by rw[ji];decide);have hl:=(AB hp).1 ((a::l).getLast (by simp)) (getLast_mem _);refine⟨hm,ji,hF.tree u hm ji,?_,rfl⟩
  rcases hl with h1|h1
  ·exact absurd h1 hd
  ·exact h1
theorem kR {s:ByteArray} (h:aR s=none):(dP s).toList.isEmpty=false:=by
 have hs:(dP s).data.toList≠[]:=by unfold dP kOf Rb toB Ra;simp
 rw[Lib.toList_data]
 cases hd:(dP s).data.toList with
 |nil=>exact absurd hd hs
 |cons a l=>rfl
noncomputable def fU (N:List NV) (F:aC) (s:ByteArray):Except Int PL:=
 match dZ N F s with | .error k=>.error k | .ok p=>if (cF (bp F p.v) p.az).isSome then .error 6 else .ok p
noncomputable def e8 (N:List NV) (F:aC) (s:ByteArray):Except Int (PL×aG):=
 match dZ N F s with | .error k=>.error k | .ok p=>match cF (bp F p.v) p.az with|none=>.error 5|some it=>.ok (p,it)
theorem gS {N:List NV} {F:aC} {ar:Int} (hF:Fits N F ar) {s:ByteArray} {p:PL} (h:fU N F s=.ok p):bj N F p/\cF (bp F p.v) p.az=none:=by
 unfold fU at h
 split at h
 ·cases h
 rename_i q hq
 split at h
 ·cases h
 rename_i hn
 cases h
 exact⟨jA hF hq,by cases hg:cF (bp F p.v) p.az with|none=>rfl|some x=>rw[hg]at hn;simp at hn⟩
theorem gI {N:List NV} {F:aC} {ar:Int} (hF:Fits N F ar) {s:ByteArray} {p:PL} {it:aG} (h:e8 N F s=.ok (p,it)):bj N F p/\cF (bp F p.v) p.az=some it:=by
 unfold e8 at h
 split at h
 ·cases h
 rename_i q hq
 split at h
 ·cases h
 rename_i x hx
 cases h
 exact⟨jA hF hq,hx⟩
variable (w0 w:World) (fb mb:Nat) (N:List NV) (F:aC) (ar:Int) (l2:List aI)
theorem uH (hR:bF w0) (h:aJ w0 w fb mb N F ar l2) (hF:Fits N F ar) (s:ByteArray) (hs:s.size<=4000000000):
 Calls prog 64 #[.pointer (some ⟨fb,0,none⟩),.string s] w fun e w'=>fO w0 fb mb N F ar l2 (fU N F s) e w':=by
 obtain⟨B,hB⟩:=aa w.heap.size;have h1:=h.aY 131 [.int .i64 0,.int .i64 0,.int .i64 0,.int .i64 0,.string ⟨#[]⟩,.pointer none,.string ⟨#[]⟩,.string ⟨#[]⟩];rw[hB]at h1;have hC:=rG w0 _ fb mb N F ar _ hR h1 hF s hs;have rk:Hid (fU N F s=match dZ N F s with | .error k=>.error k | .ok p=>if (cF (bp F p.v) p.az).isSome then .error 6 else .ok p):=rfl;have JH:Hid (∀p,dZ N F s=.ok p->bj N F p):=fun p hp=>jA hF hp
 generalize dZ N F s=r at hC rk JH;clear h1 h hF hR
 cases r with
 |error k=>
  simp only[fO,gO]at hC;have HC:=aq hC;clear hC JH;go_enter func64,ntmps64;go_wp2_with fail;refine(an HC).mono ?_;rintro e w2 ⟨rfl,h2⟩;obtain⟨y0,y1,y2,y3,y4,y5,y6,y7,r0,r1,r2,r3,r4,r5,r6,r7⟩:=h2.eight (b:=B) ae;have eO:B<w2.heap.size:=World.block_lt_of_cell? _ _ y0;have H2:=aq h2;clear h2 HC hB
  go_wp2
  have h5:=((an H2).gN [] (.int .i64 0) (.int .i64 0) (.int .i64 0) (.int .i64 0) (.string ⟨#[]⟩) (.pointer none) (.string ⟨#[]⟩) (.string ⟨#[]⟩)).aY 131 [.int .i64 0,.int .i64 0,.int .i64 0,.int .i64 0,.string ⟨#[]⟩,.pointer none,.string ⟨#[]⟩,.string ⟨#[]⟩];refine bodyPost_ret (dX (p:=4) (u:=5) rfl _ _ B _ _ _ _ _ _ _ _ rfl rfl (h5.cw (t:=131) af)) rfl ?_;exact⟨by rw[an rk];rfl,(h5.aD []).aD []⟩
 |ok p=>
  simp only[fO,km]at hC;have HC:=aq hC;have jc:=an JH p rfl;clear hC JH;obtain⟨tb,jh,ht⟩:=jc.tree;have hG:=fun wx l (hx:aJ w0 wx fb mb N F ar l)=>ug w0 wx fb mb N F ar l hx p tb jh ht
  have MF:bp F p.v=aX F tb:=by unfold bp;rw[jh]
  simp only[zA,PL.val]at hG;have nT:Hid (fU N F s=if (cF (aX F tb) p.az).isSome then .error 6 else .ok p):=(an rk).trans (by show(if (cF (bp F p.v) p.az).isSome then _ else _)=_;rw[MF]);generalize cF (aX F tb) p.az=g at hG nT;obtain⟨nm,Mu⟩:=aa (Sj g);obtain⟨nd,y8⟩:=aa (Sk g);rw[Mu,y8]at hG;have HG:=aq hG;clear hG MF ht jh jc rk Mu y8;go_enter func64,ntmps64;go_wp2_with fail;refine(an HC).mono ?_;rintro e w2 ⟨rfl,h2⟩;have H3:=aq (h2.aY 131 [.int .i64 p.v.id,.int .i64 p.v.aA,.int .i64 p.v.up,.int .i64 p.v.aB,.string p.v.aL,.pointer p.v.ptr,.string p.az,.string p.name])
  obtain⟨G,hG⟩:=aa w2.heap.size;rw[hG]at H3;clear h2 HC;go_wp2_with fail;refine(an HG _ _ (an H3)).mono ?_;rintro e w4 ⟨rfl,h4⟩;clear H3 HG hG hB;obtain⟨y0,y1,y2,y3,y4,y5,y6,y7,r0,r1,r2,r3,r4,r5,r6,r7⟩:=h4.eight (b:=B) af;obtain⟨x0,x1,x2,x3,x4,x5,x6,x7,_⟩:=h4.eight (b:=G) ae;have eO:B<w4.heap.size:=World.block_lt_of_cell? _ _ y0;have RG:G<w4.heap.size:=World.block_lt_of_cell? _ _ x0;have H4:=aq h4;clear h4
  cases g with
  |none=>
   simp only[Option.isSome_none];have KU:fU N F s=.ok p:=(an nT).trans (by simp);clear nT
   go_wp2
   have h5:=((an H4).gN [_] (.int .i64 p.v.id) (.int .i64 p.v.aA) (.int .i64 p.v.up) (.int .i64 p.v.aB) (.string p.v.aL) (.pointer p.v.ptr) (.string p.az) (.string p.name)).aY 100 [.string nm,.int .i64 nd];refine bodyPost_ret (dX (p:=4) (u:=5) rfl _ _ B _ _ _ _ _ _ _ _ rfl rfl (h5.cw (t:=131) ag)) rfl ?_;exact⟨by rw[KU];rfl,((h5.aD []).aD []).aD []⟩
  |some it=>
   simp only[Option.isSome_some];have KU:fU N F s=.error 6:=(an nT).trans (by simp);clear nT
   go_wp2
   have h5:=((an H4).gN [_] (.int .i64 0) (.int .i64 0) (.int .i64 0) (.int .i64 0) (.string ⟨#[]⟩) (.pointer none) (.string ⟨#[]⟩) (.string ⟨#[]⟩)).aY 100 [.string nm,.int .i64 nd];refine bodyPost_ret (dX (p:=4) (u:=5) rfl _ _ B _ _ _ _ _ _ _ _ rfl rfl (h5.cw (t:=131) ag)) rfl ?_;exact⟨by rw[KU];rfl,((h5.aD []).aD []).aD []⟩
theorem oB {fn:Func} {p q u:Tmp} (h:fn.results=#[.cell p 131,.cell q 100,.tmp u]) (tmps:Array Value) (w:World) (g g2:Nat) (a b c d e f x y m n:Value) {v:Value}
 (hp:tmps.getD p undef=.pointer (some ⟨g,0,none⟩)) (hq:tmps.getD q undef=.pointer (some ⟨g2,0,none⟩)) (AW:tmps.getD u undef=v) (hg:w.heap[g]? = some (.cells #[a,b,c,d,e,f,x,y] 131 (0,0))) (X6:w.heap[g2]? = some (.cells #[m,n] 100 (0,0))):
 (results fn tmps).run prog w=.ok (.tuple #[.agg #[a,b,c,d,e,f,x,y],.agg #[m,n],v]) w:=by
 have hr:=run_loadVar_row (P:=prog) w g 131 131 #[a,b,c,d,e,f,x,y] (0,0) _ hg underlying131 rfl (by kernel_rfl);have kC:=run_loadVar_row (P:=prog) w g2 100 100 #[m,n] (0,0) _ X6 underlying100 rfl (by kernel_rfl);rw[Array.getD_eq_getD_getElem?]at hp hq AW;simp only[results,h];simp[Sem.run_bind,Result.andThen,hp,hq,AW,asAddr,hr,kC]
def o7:Except Int (PL×aG)->Value
 |.ok (p,it)=>.tuple #[p.val,.agg #[.string it.name,.int .i64 it.aN],.nilIface]
 |.error k=>.tuple #[PL.zero.val,.agg #[.string ⟨#[]⟩,.int .i64 0],.iface 88 (.int .i64 k)]
def nH (r:Except Int (PL×aG)) (e:Ending) (w':World):Prop:=e=.returned (o7 r)/\aJ w0 w' fb mb N F ar l2
theorem xO (hR:bF w0) (h:aJ w0 w fb mb N F ar l2) (hF:Fits N F ar) (s:ByteArray) (hs:s.size<=4000000000):
 Calls prog 66 #[.pointer (some ⟨fb,0,none⟩),.string s] w fun e w'=>nH w0 fb mb N F ar l2 (e8 N F s) e w':=by
 obtain⟨B,hB⟩:=aa w.heap.size;have h1:=(h.aY 131 [.int .i64 0,.int .i64 0,.int .i64 0,.int .i64 0,.string ⟨#[]⟩,.pointer none,.string ⟨#[]⟩,.string ⟨#[]⟩]).aY 100 [.string ⟨#[]⟩,.int .i64 0];have hz:(w.alloc (.cells [.int .i64 0,.int .i64 0,.int .i64 0,.int .i64 0,.string ⟨#[]⟩,.pointer none,.string ⟨#[]⟩,.string ⟨#[]⟩].toArray 131)).heap.size=B+1:=by simp[hB]
 rw[hz,hB]at h1;have hC:=rG w0 _ fb mb N F ar _ hR h1 hF s hs;have rk:Hid (e8 N F s=match dZ N F s with | .error k=>.error k | .ok p=>match cF (bp F p.v) p.az with|none=>.error 5|some it=>.ok (p,it)):=rfl;have JH:Hid (∀p,dZ N F s=.ok p->bj N F p):=fun p hp=>jA hF hp
 generalize dZ N F s=r at hC rk JH;clear h1 h hF hR hz
 cases r with
 |error k=>
  simp only[fO,gO]at hC;have HC:=aq hC;clear hC JH;go_enter func66,ntmps66;go_wp2_with fail;refine(an HC).mono ?_;rintro e w2 ⟨rfl,h2⟩;obtain⟨y0,y1,y2,y3,y4,y5,y6,y7,r0,r1,r2,r3,r4,r5,r6,r7⟩:=h2.eight (b:=B) af;obtain⟨e0,e1,g0,g1⟩:=h2.two (b:=B+1) ae;have eO:B+1<w2.heap.size:=World.block_lt_of_cell? _ _ e0;have RG:B<w2.heap.size:=by omega
  have H2:=aq h2;clear h2 HC hB
  go_wp2
  have h5:=((((an H2).gN [_] (.int .i64 0) (.int .i64 0) (.int .i64 0) (.int .i64 0) (.string ⟨#[]⟩) (.pointer none) (.string ⟨#[]⟩) (.string ⟨#[]⟩)).wN [] (.string ⟨#[]⟩) (.int .i64 0)).aY 131 [.int .i64 0,.int .i64 0,.int .i64 0,.int .i64 0,.string ⟨#[]⟩,.pointer none,.string ⟨#[]⟩,.string ⟨#[]⟩]);refine bodyPost_ret (oB (p:=4) (q:=5) (u:=6) rfl _ _ B (B+1) _ _ _ _ _ _ _ _ _ _ rfl rfl rfl (h5.cw (t:=131) ag) (h5.cw (t:=100) af)) rfl ?_;exact⟨by rw[an rk];rfl,((h5.aD []).aD []).aD []⟩
 |ok p=>
  simp only[fO,km]at hC;have HC:=aq hC;have jc:=an JH p rfl;clear hC JH;obtain⟨tb,jh,ht⟩:=jc.tree;have hG:=fun wx l (hx:aJ w0 wx fb mb N F ar l)=>ug w0 wx fb mb N F ar l hx p tb jh ht
  have MF:bp F p.v=aX F tb:=by unfold bp;rw[jh]
  simp only[zA,PL.val]at hG;have nT:Hid (e8 N F s=match cF (aX F tb) p.az with|none=>.error 5|some it=>.ok (p,it)):=(an rk).trans (by rw[<-MF]);generalize cF (aX F tb) p.az=g at hG nT;obtain⟨nm,Mu⟩:=aa (Sj g);obtain⟨nd,y8⟩:=aa (Sk g);rw[Mu,y8]at hG;have HG:=aq hG;have Hnm:=aq Mu;have M6:=aq y8;clear hG MF ht jh jc rk Mu y8;go_enter func66,ntmps66;go_wp2_with fail;refine(an HC).mono ?_;rintro e w2 ⟨rfl,h2⟩;have H3:=aq (h2.aY 131 [.int .i64 p.v.id,.int .i64 p.v.aA,.int .i64 p.v.up,.int .i64 p.v.aB,.string p.v.aL,.pointer p.v.ptr,.string p.az,.string p.name])
  obtain⟨G,hG⟩:=aa w2.heap.size;rw[hG]at H3;clear h2 HC;go_wp2_with fail;refine(an HG _ _ (an H3)).mono ?_;rintro e w4 ⟨rfl,h4⟩;clear H3 HG hG hB;obtain⟨y0,y1,y2,y3,y4,y5,y6,y7,r0,r1,r2,r3,r4,r5,r6,r7⟩:=h4.eight (b:=B) ag;obtain⟨e0,e1,g0,g1⟩:=h4.two (b:=B+1) af;obtain⟨x0,x1,x2,x3,x4,x5,x6,x7,_⟩:=h4.eight (b:=G) ae;have eO:B+1<w4.heap.size:=World.block_lt_of_cell? _ _ e0;have aaY:B<w4.heap.size:=by omega
  have RG:G<w4.heap.size:=World.block_lt_of_cell? _ _ x0;have H4:=aq h4
  cases g with
  |none=>
   simp only[Option.isSome_none];have KU:e8 N F s=.error 5:=an nT;clear nT h4
   go_wp2
   have h5:=(((an H4).gN [_,_] (.int .i64 0) (.int .i64 0) (.int .i64 0) (.int .i64 0) (.string ⟨#[]⟩) (.pointer none) (.string ⟨#[]⟩) (.string ⟨#[]⟩)).wN [_] (.string ⟨#[]⟩) (.int .i64 0)).aY 100 [.string nm,.int .i64 nd];refine bodyPost_ret (oB (p:=4) (q:=5) (u:=6) rfl _ _ B (B+1) _ _ _ _ _ _ _ _ _ _ rfl rfl rfl (h5.cw (t:=131) ah) (h5.cw (t:=100) ag)) rfl ?_;exact⟨by rw[KU];rfl,(((h5.aD []).aD []).aD []).aD []⟩
  |some it=>
   simp only[Option.isSome_some];have KU:e8 N F s=.ok (p,it):=an nT;have Mw:it.name=nm:=an Hnm;have Mv:it.aN=nd:=an M6;rw[<-Mw,<-Mv];clear nT h4 Hnm M6 Mw Mv;go_wp2_with fail
   go_region
   all_goals go_wp2_with fail
   have h5:=((((an H4).gN [_,_] (.int .i64 p.v.id) (.int .i64 p.v.aA) (.int .i64 p.v.up) (.int .i64 p.v.aB) (.string p.v.aL) (.pointer p.v.ptr) (.string p.az) (.string p.name)).wN [_] (.string it.name) (.int .i64 it.aN)).aY 100 [.string it.name,.int .i64 it.aN]).drew;refine bodyPost_ret (oB (p:=4) (q:=5) (u:=6) rfl _ _ B (B+1) _ _ _ _ _ _ _ _ _ _ rfl rfl rfl (h5.cw (t:=131) ah) (h5.cw (t:=100) ag)) rfl ?_;exact⟨by rw[KU];rfl,(((h5.aD []).aD []).aD []).aD []⟩
end
end Go.Proofs.YtphcnmlbieokoaaGreatDoor.T
