import Derived.Test.YtphcnmlbieokoaaGreatDoorC13
import Derived.Deep.RegionHeldLaw
set_option maxRecDepth 100000
set_option maxHeartbeats 16000000
set_option linter.unusedVariables false
set_option linter.unusedSimpArgs false
namespace Go.Proofs.YtphcnmlbieokoaaGreatDoor.T
open Go.RowKit List Go.Proofs.Tryz
section
def gG (N:List NV):Nat->Int->Int->Bool
 | 0,_,_=>false
 |n+1,id,outer=>if id==outer then true else gG N n (bW N id).up outer
theorem Vo (a b c d e f:Value) (W:World):(Instr.field 107 (.agg #[a,b,c,d,e,f]) 0).run prog W=.ok (.agg #[a,b,c,d,e]) W:=by kernel_rfl
theorem Vp (a b c d e:Value) (W:World):(Instr.field 52 (.agg #[a,b,c,d,e]) 2).run prog W=.ok c W:=by kernel_rfl
variable (w0 w:World) (fb mb:Nat) (N:List NV) (F:aC) (ar:Int) (l2:List aI)
theorem mC (h:aJ w0 w fb mb N F ar l2) (hF:Fits N F ar) (id outer:Int) (hi:kg id):
 Calls prog 70 #[.pointer (some ⟨fb,0,none⟩),.int .i64 id,.int .i64 outer] w fun e w'=>e=.returned (.bool (gG N N.length id outer))/\w'=w:=by
 have q0:=h.kP;have hlen:∀ty,(Builtin.len_ #[124] ty #[.map (some mb)]).run prog w=.ok (.int .i64 N.length) w:=fun ty=>Ey h.wW ty
 obtain⟨r,hr⟩:=aa (gG N N.length id outer);have tn:=hF.ix;have Hup:Hid (∀i,kg (bW N i).up):=fun i=>(hF.Za i).2
 have Hlk:Hid (∀i,kg i->(Instr.lookup 124 (.map (some mb)) (.int .i64 i) false).run prog w=.ok (bW N i).val w):=fun i hi=>h.look hi w rfl
 obtain⟨n,hn⟩:=aa N.length;rw[hn]at hlen hr tn ⊢;rw[hr];have Hr:=aq hr;have Hi:=aq hi;clear h hF hn hr hi;go_enter func70,ntmps70;go_wp2_with fail
 go_loopg [1,12] (n+1) (fun k a i wr=>∃(j:Nat) (x:Int),j<=n/\k=n+1-j/\a=.int .i64 x/\i=.int .i64 j/\wr=w/\Hid (kg x)/\Hid (gG N (n-j) x outer=r))
 case atStart=>exact⟨0,id,by omega,rfl,rfl,rfl,rfl,Hi,Hr⟩
 case round=>
  obtain⟨j,x,hj,hk,rfl,rfl,Di,Hx,Hrx⟩:=hrel;subst Di
  by_cases PX:j<n
  ·have MB:(j:Int)<(n:Int):=by omega
   have lj:=an Hlk x (an Hx);have hs:n-j=(n-(j+1))+1:=by omega
   have abK:=aq (an Hup x);have gz:gG N (n-j) x outer=if x==outer then true else gG N (n-(j+1)) (bW N x).up outer:=by rw[hs];rfl
   generalize bW N x=u at lj abK gz;unfold NV.val at lj
   cases he:(x==outer)with
   |true=>
    have hrr:r=true:=by rw[<-an Hrx,gz,he];rfl
    subst hrr;clear gz hs
    go_wp2
    go_ret;exact⟨rfl,rfl⟩
   |false=>
    have Hr2:Hid (gG N (n-(j+1)) u.up outer=r):=by have h8:=an Hrx;rw[gz,he]at h8;exact h8
    clear gz hs;have pG:=Vo (.int .i64 u.id) (.int .i64 u.aA) (.int .i64 u.up) (.int .i64 u.aB) (.string u.aL) (.pointer u.ptr) wr;have ME:=Vp (.int .i64 u.id) (.int .i64 u.aA) (.int .i64 u.up) (.int .i64 u.aB) (.string u.aL) wr
    go_wp2
    go_roundg (n-j)
    case measure=>omega
    case rel=>exact⟨j+1,u.up,by omega,by omega,rfl,by simp,rfl,abK,Hr2⟩
  ·have MB:¬(j:Int)<(n:Int):=by omega
   have hrr:r=false:=by rw[<-an Hrx,show n-j=0 by omega];rfl
   subst hrr
   go_wp2
   go_ret;exact⟨rfl,rfl⟩
end
section
def fX (N:List NV) (F:aC) (aN aA:Int):Option Int:=
 if (bW N aN).aA≠aA then some 7 else if (bW N aN).aA=1/\0<(bp F (bW N aN)).length then some 6 else none
def cm (N:List NV) (aN:Int):List NV:=
 if (bW N aN).aB-1<1 then lN N aN else dH N {bW N aN with aB:=(bW N aN).aB-1}
def cD (F:aC) (tb:Nat) (az:ByteArray):aC:=gK F tb (dv (aX F tb) az)
def gl (F:aC) (tb:Nat) (it:aG):aC:=gK F tb (da (aX F tb) it)
def jG (N:List NV) (id up:Int):List NV:=if (bW N id).aA=1 then dH N {bW N id with up:=up} else N
theorem vr {it x:aG}:∀{l:List aG},x∈da l it->x=it∨x∈l
 |[],h=>by simp[da]at h;exact .inl h
 |y::l,h=>by
  unfold da at h
  split at h
  ·rcases mem_cons.1 h with h|h
   ·exact .inl h
   ·exact .inr h
  split at h
  ·rcases mem_cons.1 h with h|h
   ·exact .inl h
   ·exact .inr (mem_cons_of_mem _ h)
  ·rcases mem_cons.1 h with h|h
   ·exact .inr (by rw[h];exact mem_cons_self)
   ·rcases vr h with h|h
    ·exact .inl h
    ·exact .inr (mem_cons_of_mem _ h)
theorem Ax (it:aG):∀l:List aG,(da l it).length<=l.length+1
 |[]=>by simp[da]
 |y::l=>by
  unfold da
  split
  ·simp
  split
  ·simp
  ·have:=Ax it l;simp;omega
theorem DL (l:List aG) (k:ByteArray):(dv l k).length<=l.length:=length_filter_le _ _
theorem sO {l:List aG} {k:ByteArray} {x:aG} (h:x∈dv l k):x∈l:=(mem_filter.1 h).1
theorem po {F:aC} {tb:Nat} {L:List aG} {x:Nat×List aG} (h:x∈gK F tb L):x.2=L∨x∈F:=by
 obtain⟨y,hy,he⟩:=mem_map.1 h
 split at he
 ·exact .inl (by rw[<-he])
 ·exact .inr (by rw[<-he];exact hy)
def zo (k:Nat) (F:aC):Prop:=∀x∈F,x.2.length<=k
theorem zo.mono {k m:Nat} {F:aC} (h:zo k F) (hm:k<=m):zo m F:=fun x hx=>Nat.le_trans (h x hx) hm
theorem zo.look {k:Nat} {F:aC} (h:zo k F) (tb:Nat):(aX F tb).length<=k:=by
 by_cases ht:tb∈F.map (·.1)
 ·exact h _ (dh ht)
 ·have:aX F tb=[]:=by
   unfold aX
   cases hf:F.find? (fun x=>x.1==tb)with
   |none=>rfl
   |some x=>exact absurd (mem_map.2 ⟨x,mem_of_find?_eq_some hf,by simpa using find?_some hf⟩) ht
  rw[this];exact Nat.zero_le _
theorem zo.set {k m:Nat} {F:aC} (h:zo k F) (hm:k<=m) {tb:Nat} {L:List aG} (hL:L.length<=m):zo m (gK F tb L):=fun x hx=>by
 rcases po hx with h1|h1
 ·rw[h1];exact hL
 ·exact Nat.le_trans (h x h1) hm
theorem zo.put {k:Nat} {F:aC} (h:zo k F) (tb:Nat) (it:aG):zo (k+1) (gl F tb it):=h.set (by omega) (by have:=Ax it (aX F tb);have:=h.look tb;omega)
theorem zo.drop {k:Nat} {F:aC} (h:zo k F) (tb:Nat) (az:ByteArray):zo k (cD F tb az):=h.set (Nat.le_refl _) (by have:=DL (aX F tb) az;have:=h.look tb;omega)
variable {N:List NV} {F:aC} {ar:Int}
theorem Fits.set (h:Fits N F ar) {tb:Nat} {L:List aG} (h1:∀it∈L,0<=it.aN/\it.aN<=999) (h2:∀it∈L,it.az.toList.isEmpty=false) (h3:L.length<=900):Fits N (gK F tb L) ar:=by
 refine⟨fun v hv hk=>?_,h.ix,h.id,h.up,fun x hx it hit=>?_,fun x hx it hit=>?_,h.ar,fun x hx=>?_⟩
 ·rw[cV];exact h.tree v hv hk
 ·rcases po hx with e|e
  ·exact h1 it (by rw[<-e];exact hit)
  ·exact h.gA x e it hit
 ·rcases po hx with e|e
  ·exact h2 it (by rw[<-e];exact hit)
  ·exact h.full x e it hit
 ·rcases po hx with e|e
  ·rw[e];exact h3
  ·exact h.aF x e
theorem Fits.put (h:Fits N F ar) {tb:Nat} (ht:tb∈F.map (·.1)) {it:aG} (h1:0<=it.aN/\it.aN<=999) (h2:it.az.toList.isEmpty=false) {k:Nat} (hk:zo k F) (hk9:k<900):Fits N (gl F tb it) ar:=by
 refine h.set (fun x hx=>?_) (fun x hx=>?_) ?_
 ·rcases vr hx with rfl|hx
  ·exact h1
  ·exact h.gA _ (dh ht) x hx
 ·rcases vr hx with rfl|hx
  ·exact h2
  ·exact h.full _ (dh ht) x hx
 ·have:=Ax it (aX F tb);have:=hk.look tb;omega
theorem Fits.drop (h:Fits N F ar) {tb:Nat} (ht:tb∈F.map (·.1)) (az:ByteArray):Fits N (cD F tb az) ar:=
 h.set (fun x hx=>h.gA _ (dh ht) x (sO hx)) (fun x hx=>h.full _ (dh ht) x (sO hx)) (Nat.le_trans (DL _ _) (h.aF _ (dh ht)))
theorem pq {v x:NV} (h:x∈dH N v):x=v∨x∈N:=by
 unfold dH at h
 split at h
 ·obtain⟨y,hy,he⟩:=mem_map.1 h
  split at he
  ·exact .inl he.symm
  ·exact .inr (by rw[<-he];exact hy)
 ·rcases mem_append.1 h with h|h
  ·exact .inr h
  ·exact .inl (mem_singleton.1 h)
theorem Fits.Ia (h:Fits N F ar) {v:NV} (h1:v.aA=1->∃tb,v.tb=some tb/\tb∈F.map (·.1)) (h2:0<=v.id/\v.id<=999) (h3:0<=v.up/\v.up<=999) (h4:(bq N v.id).isSome=true∨N.length<16):Fits (dH N v) F ar:=by
 refine⟨fun x hx hk=>?_,?_,fun x hx=>?_,fun x hx=>?_,h.gA,h.full,h.ar,h.aF⟩
 ·rcases pq hx with rfl|hx
  ·exact h1 hk
  ·exact h.tree x hx hk
 ·rw[nY];have:=h.ix
  split
  ·exact this
  ·rename_i hh
   rcases h4 with h4|h4
   ·exact absurd h4 hh
   ·omega
 ·rcases pq hx with rfl|hx
  ·exact h2
  ·exact h.id x hx
 ·rcases pq hx with rfl|hx
  ·exact h3
  ·exact h.up x hx
theorem Fits.adC (h:Fits N F ar) (i:Int):Fits (lN N i) F ar:=by
 have hm:∀{x},x∈lN N i->x∈N:=fun hx=>(mem_filter.1 hx).1
 exact⟨fun x hx hk=>h.tree x (hm hx) hk,Nat.le_trans (length_filter_le _ _) h.ix,fun x hx=>h.id x (hm hx),fun x hx=>h.up x (hm hx),h.gA,h.full,h.ar,h.aF⟩
theorem Fits.vo (h:Fits N F ar) (tb:Nat):Fits N ((tb,[])::F) ar:=by
 refine⟨fun x hx hk=>?_,h.ix,h.id,h.up,fun x hx it hit=>?_,fun x hx it hit=>?_,h.ar,fun x hx=>?_⟩
 ·obtain⟨t,h1,h2⟩:=h.tree x hx hk;exact⟨t,h1,by rw[map_cons];exact mem_cons_of_mem _ h2⟩
 ·rcases mem_cons.1 hx with rfl|hx
  ·cases hit
  ·exact h.gA x hx it hit
 ·rcases mem_cons.1 hx with rfl|hx
  ·cases hit
  ·exact h.full x hx it hit
 ·rcases mem_cons.1 hx with rfl|hx
  ·exact Nat.zero_le _
  ·exact h.aF x hx
theorem zo.vo {k:Nat} (h:zo k F) (tb:Nat):zo k ((tb,[])::F):=fun x hx=>by
 rcases mem_cons.1 hx with rfl|hx
 ·exact Nat.zero_le _
 ·exact h x hx
theorem Fits.ni (h:Fits N F ar) (hn:ar<=999):Fits N F (ar+1):=⟨h.tree,h.ix,h.id,h.up,h.gA,h.full,⟨by have:=h.ar.1;omega,by omega⟩,h.aF⟩
theorem LA {i:Int} (hk:(bq N i).isSome=true):bW N i∈N/\(bW N i).id=i:=by
 unfold bW
 cases hf:bq N i with
 |none=>rw[hf]at hk;cases hk
 |some v=>exact dm hf
theorem Fits.unlink (h:Fits N F ar) (i:Int) (hl:∀v∈N,0<=v.aB):Fits (cm N i) F ar:=by
 unfold cm
 split
 ·exact h.adC i
 ·rename_i eO
  cases hf:bq N i with
  |none=>exfalso;apply eO;unfold bW;rw[hf];simp[NV.zero]
  |some v=>obtain⟨h1,h2⟩:=LA (N:=N) (i:=i) (by rw[hf];rfl);exact h.Ia (fun hk=>h.tree (bW N i) h1 hk) (h.id (bW N i) h1) (h.up (bW N i) h1) (.inl (by simp only;rw[h2,hf];rfl))
theorem Fits.move (h:Fits N F ar) (i up:Int) (hu:0<=up/\up<=999):Fits (jG N i up) F ar:=by
 unfold jG
 split
 ·rename_i hk
  obtain⟨h1,h2⟩:=vT (N:=N) (i:=i) rfl (by rw[hk];decide);exact h.Ia (fun hk=>h.tree (bW N i) h1 hk) (h.id (bW N i) h1) hu (.inl (by simp only;rw[h2];cases hf:bq N i with|none=>(unfold bW at hk;rw[hf]at hk;simp[NV.zero]at hk)|some v=>rfl))
 ·exact h
end
section
theorem aJ.nj {w0 w:World} {fb mb:Nat} {N:List NV} {F:aC} {ar:Int} {l2:List aI} (h:aJ w0 w fb mb N F ar l2) (hN:N.length<=1000) (v:NV) (hi:kg v.id):
 ∃w',(Instr.mapUpdate 124 (.map (some mb)) (.int .i64 v.id) v.val).run prog w=.ok () w'/\aJ w0 w' fb mb (dH N v) F ar l2:=by
 obtain⟨rs,hr,H⟩:=h;obtain⟨w',h1,h2⟩:=aw.nj [.cell fb 126 [.map (some mb),.int .i64 ar]] H hN v hi;exact⟨w',h1,rs,hr,h2⟩
theorem aJ.Kw {w0 w:World} {fb mb:Nat} {N:List NV} {F:aC} {ar:Int} {l2:List aI} (h:aJ w0 w fb mb N F ar l2) (i:Int) (hi:kg i) (ty:TypeId):
 ∃w',(Builtin.delete_ #[124,3] ty #[.map (some mb),.int .i64 i]).run prog w=.ok (.tuple #[]) w'/\aJ w0 w' fb mb (lN N i) F ar l2:=by
 obtain⟨rs,hr,H⟩:=h;obtain⟨w',h1,h2⟩:=aw.Kw [.cell fb 126 [.map (some mb),.int .i64 ar]] H i hi ty;exact⟨w',h1,rs,hr,h2⟩
variable (w0 w:World) (fb mb:Nat) (N:List NV) (F:aC) (ar:Int) (l2:List aI)
theorem rN (h:aJ w0 w fb mb N F ar l2) (hF:Fits N F ar) (nm:ByteArray) (nd aA:Int) (hi:kg nd):
 Calls prog 67 #[.pointer (some ⟨fb,0,none⟩),.agg #[.string nm,.int .i64 nd],.int .i64 aA] w fun e w'=>e=.returned (bH (fX N F nd aA))/\aJ w0 w' fb mb N F ar l2:=by
 obtain⟨B,hB⟩:=aa w.heap.size;have h1:=h.aY 100 [.string nm,.int .i64 nd];rw[hB]at h1;obtain⟨w1,iD⟩:=aa (w.alloc (.cells [.string nm,.int .i64 nd].toArray 100));rw[iD]at h1;obtain⟨C,hC⟩:=aa w1.heap.size;have h2:=h1.aY 107 [.int .i64 0,.int .i64 0,.int .i64 0,.int .i64 0,.string ⟨#[]⟩,.pointer none];rw[hC]at h2;have q0:=h1.kP;have ZM:∀o,(w1.alloc o).cell? ⟨fb,0,none⟩=some (.map (some mb)):=fun o=>Lib.cell?_alloc_some o q0
 have e1:w1.cell? ⟨B,1,none⟩=some (.int .i64 nd):=h1.cellAt ae rfl;have e1a:∀o,(w1.alloc o).cell? ⟨B,1,none⟩=some (.int .i64 nd):=fun o=>Lib.cell?_alloc_some o e1
 have lj:=h1.look hi w1.drew rfl;have A4:=h2.look hi (w1.alloc (.cells #[.int .i64 0,.int .i64 0,.int .i64 0,.int .i64 0,.string ⟨#[]⟩,.pointer none] 107)).drew rfl;have nS:(bW N nd).aA=1->∃tb,(bW N nd).tb=some tb/\tb∈F.map (·.1):=(hF.Za nd).1;have Hm:Hid (fX N F nd aA=if (bW N nd).aA≠aA then some 7 else if (bW N nd).aA=1/\0<(bp F (bW N nd)).length then some 6 else none):=rfl;have W4:=aq nS
 have Hfw:Hid (∀tb,(aX F tb).length<=900):=fun tb=>by have:=(show zo 900 F from hF.aF).look tb;exact this
 have ab0:Hid (∀tb,tb∈F.map (·.1)->Full (aX F tb)):=fun tb ht=>hF.full _ (dh ht)
 generalize bW N nd=u at lj A4 Hm W4;have H1:=aq h1
 have HU:Hid (aJ w0 (w1.alloc (.cells #[.int .i64 u.id,.int .i64 u.aA,.int .i64 u.up,.int .i64 u.aB,.string u.aL,.pointer u.ptr] 107)).drew fb mb N F ar (.cell C 107 [.int .i64 u.id,.int .i64 u.aA,.int .i64 u.up,.int .i64 u.aB,.string u.aL,.pointer u.ptr]::.cell B 100 [.string nm,.int .i64 nd]::l2)):=by rw[<-hC];exact(h1.aY 107 [.int .i64 u.id,.int .i64 u.aA,.int .i64 u.up,.int .i64 u.aB,.string u.aL,.pointer u.ptr]).drew
 unfold NV.val at lj A4;clear h h1 h2 nS hF hi;go_enter func67,ntmps67;go_wp2_with fail
 go_cut [7]from 8 to 14 (fun a7 wc=>∃nb:Nat,a7=.pointer (some ⟨nb,0,none⟩)/\Hid (aJ w0 wc fb mb N F ar (.cell nb 107 [.int .i64 u.id,.int .i64 u.aA,.int .i64 u.up,.int .i64 u.aB,.string u.aL,.pointer u.ptr]::.cell B 100 [.string nm,.int .i64 nd]::l2)))
 case first=>
  go_region
  all_goals (go_wp2_with fail;go_meet;exact⟨_,rfl,HU⟩)
 case rest=>
  obtain⟨nb,rfl,H3⟩:=hcut;have h3:=an H3;obtain⟨k0,k1,k2,k3,k4,k5,f0,f1,f2,f3,f4,f5⟩:=h3.mP (b:=nb) ae;clear lj A4 q0 ZM e1 e1a H1 HU h3;have hf:=fun wx=>eQ u wx
  unfold NV.val at hf
  by_cases hk:u.aA=aA
  ·subst hk
   cases ji:(u.aA==1)with
   |false=>
    rw[ji]at hf;have lI:¬u.aA=1:=by simpa using ji
    have hM:fX N F nd u.aA=none:=by rw[an Hm,if_neg (by simp),if_neg (by simp[lI])]
    have HM:=aq hM;have Hf:=aq hf;clear hf hM lI W4;go_wp2_with fail;refine(an Hf _).mono ?_;rintro e w4 ⟨rfl,iU⟩;have H4:=aq ((an H3).step iU);clear iU Hf;go_wp2_with fail;go_ret;exact⟨by rw[an HM];rfl,((an H4).aD []).aD []⟩
   |true=>
    rw[ji]at hf;have lI:u.aA=1:=by simpa using ji
    obtain⟨tb,jh,ht⟩:=an W4 lI;have yW:u.ptr=some ⟨tb,0,none⟩:=by unfold NV.ptr;rw[jh];rfl
    have MF:bp F u=aX F tb:=by unfold bp;rw[jh]
    have hM:fX N F nd u.aA=if 0<(aX F tb).length then some 6 else none:=by rw[an Hm,if_neg (by simp),MF];simp[lI]
    have hG:∀wx l,aJ w0 wx fb mb N F ar l->Calls prog 90 #[.pointer (some ⟨tb,0,none⟩)] wx fun e w'=>e=.returned (.int .i64 (aX F tb).length)/\aJ w0 w' fb mb N F ar l:=fun wx l hx=>by obtain⟨rest,hT,jv⟩:=hx.uW ht;exact(AP _ _ _ wx tb _ rest hT (an ab0 tb ht) (by have:=an Hfw tb;omega)).mono fun e w' ⟨he,hT'⟩=>⟨he,jv w' hT'⟩
    rw[yW]at k5 hf H3;have HM:=aq hM;have Hf:=aq hf;have HG:=aq hG;have E0:=an Hfw tb;obtain⟨nl,AZ⟩:=aa ((aX F tb).length);rw[AZ]at HG HM E0;clear hf hM lI W4 hG jh ht yW MF;go_wp2_with fail;refine(an Hf _).mono ?_;rintro e w4 ⟨rfl,iU⟩;have h4:=(an H3).step iU;have k5:=(h4.mP (b:=nb) ae).2.2.2.2.2.1;have hg:=an HG w4 _ h4;have HG4:=aq hg;clear iU Hf h4 hg HG;go_wp2_with fail;refine(an HG4).mono ?_;rintro e w5 ⟨rfl,h5⟩;have H5:=aq h5;clear h5 HG4
    by_cases hz:0<nl
    ·have hz':(0:Int)<(nl:Int):=by omega
     have hM:=an HM;rw[if_pos hz]at hM;have HM2:=aq hM;clear hM HM AZ;go_wp2_with fail;go_ret;exact⟨by rw[an HM2];rfl,((an H5).aD []).aD []⟩
    ·have hz':¬(0:Int)<(nl:Int):=by omega
     have hM:=an HM;rw[if_neg hz]at hM;have HM2:=aq hM;clear hM HM AZ;go_wp2_with fail;go_ret;exact⟨by rw[an HM2];rfl,((an H5).aD []).aD []⟩
  ·have hM:fX N F nd aA=some 7:=by rw[an Hm,if_pos hk]
   have HM:=aq hM;have TX:(u.aA==aA)=false:=by simpa using hk
   clear hM hf;go_wp2_with fail;go_ret;exact⟨by rw[an HM];rfl,((an H3).aD []).aD []⟩
end
section
theorem tI {w0 w:World} {fb mb:Nat} {N:List NV} {F:aC} {ar:Int} {l2:List aI} (h:aJ w0 w fb mb N F ar l2):
 Calls prog 124 #[] w fun e w'=>∃tb,e=.returned (.pointer (some ⟨tb,0,none⟩))/\aJ w0 w' fb mb N ((tb,[])::F) ar l2:=by
 obtain⟨rs,hr,H⟩:=h;refine(wU _ _ _ w _ H (H.size)).mono ?_;rintro e w' ⟨tb,he,hs,h',k,hL,hc,h1,H2⟩;refine⟨tb,he,.cell tb 192 [bK k.b]::.sub h' k::rs,.cons tb [] h' k hs hL hc h1 hr,H2.conv (fun x=>?_) (fun r hr=>H2.sat r ?_)⟩
 ·simp only[ay,ax];omega
 ·simp only[mem_append,mem_cons,cons_append]at hr ⊢
  rcases hr with h|h|h|h|h|h<;>simp[h]
variable (w0 w:World) (fb mb:Nat) (N:List NV) (F:aC) (ar:Int) (l2:List aI)
theorem yc (h:aJ w0 w fb mb N F ar l2) (id aA up aB:Int) (aL:ByteArray) (hk:aA≠1):
 Calls prog 83 #[.agg #[.int .i64 id,.int .i64 aA,.int .i64 up,.int .i64 aB,.string aL],.slice none 0 0] w fun e w'=>e=.returned (.agg #[.int .i64 id,.int .i64 aA,.int .i64 up,.int .i64 aB,.string aL,.pointer none])/\aJ w0 w' fb mb N F ar l2:=by
 obtain⟨B,hB⟩:=aa w.heap.size;have h1:=(h.aY 52 [.int .i64 id,.int .i64 aA,.int .i64 up,.int .i64 aB,.string aL]).aY 107 [.int .i64 id,.int .i64 aA,.int .i64 up,.int .i64 aB,.string aL,.pointer none];have hz:(w.alloc (.cells [.int .i64 id,.int .i64 aA,.int .i64 up,.int .i64 aB,.string aL].toArray 52)).heap.size=B+1:=by simp[hB]
 rw[hz,hB]at h1;have TX:(aA==1)=false:=by simpa using hk
 have H1:=aq h1;clear h h1 hz hk;go_enter func83,ntmps83;go_wp2_with fail;refine bodyPost_ret (results_cell_row (p:=4) rfl _ _ (B+1) _ _ (0,0) _ rfl ((an H1).cw (t:=107) ae) underlying107 rfl (by kernel_rfl)) rfl ?_;exact⟨rfl,((an H1).aD []).aD []⟩
theorem oD (h:aJ w0 w fb mb N F ar l2) (id up aB:Int) (aL:ByteArray):
 Calls prog 83 #[.agg #[.int .i64 id,.int .i64 1,.int .i64 up,.int .i64 aB,.string aL],.slice none 0 0] w fun e w'=>∃tb,e=.returned (.agg #[.int .i64 id,.int .i64 1,.int .i64 up,.int .i64 aB,.string aL,.pointer (some ⟨tb,0,none⟩)])/\aJ w0 w' fb mb N ((tb,[])::F) ar l2:=by
 obtain⟨B,hB⟩:=aa w.heap.size;have h1:=(h.aY 52 [.int .i64 id,.int .i64 1,.int .i64 up,.int .i64 aB,.string aL]).aY 107 [.int .i64 0,.int .i64 0,.int .i64 0,.int .i64 0,.string ⟨#[]⟩,.pointer none];have hz:(w.alloc (.cells [.int .i64 id,.int .i64 1,.int .i64 up,.int .i64 aB,.string aL].toArray 52)).heap.size=B+1:=by simp[hB]
 rw[hz,hB]at h1;have hn:=tI h1;have HNw:=aq hn;clear h h1 hz hn;go_enter func83,ntmps83;go_wp2_with fail;refine(an HNw).mono ?_;rintro e w2 ⟨tb,rfl,h2⟩;have b0:w2.cell? ⟨B,0,none⟩=some (.int .i64 id):=h2.cellAt af rfl;have b1:w2.cell? ⟨B,1,none⟩=some (.int .i64 1):=h2.cellAt af rfl;have b2:w2.cell? ⟨B,2,none⟩=some (.int .i64 up):=h2.cellAt af rfl;have b3:w2.cell? ⟨B,3,none⟩=some (.int .i64 aB):=h2.cellAt af rfl;have b4:w2.cell? ⟨B,4,none⟩=some (.string aL):=h2.cellAt af rfl
 obtain⟨k0,k1,k2,k3,k4,k5,f0,f1,f2,f3,f4,f5⟩:=h2.mP (b:=B+1) ae;have H2:=aq h2;clear h2 HNw hB;go_wp2_with fail
 go_loopg [16] 1 (fun g vi wr=>vi=.int .i64 0/\wr=w2)
 case atStart=>exact⟨rfl,rfl⟩
 case round=>obtain⟨rfl,rfl⟩:=hrel;go_wp2_with fail;have h3:=(an H2).iu [] (.int .i64 id) (.int .i64 1) (.int .i64 up) (.int .i64 aB) (.string aL) (.pointer (some ⟨tb,0,none⟩));refine bodyPost_ret (results_cell_row (p:=4) rfl _ _ (B+1) _ _ (0,0) _ rfl (h3.cw (t:=107) ae) underlying107 rfl (by kernel_rfl)) rfl ?_;exact⟨tb,rfl,(h3.aD []).aD []⟩
end
section
noncomputable def iY (N:List NV) (F:aC) (s t:ByteArray):Option Int×List NV:=
 if 20<t.size then(some 2,N)else match jN N F s with
  |.error k=>(some k,N)
  |.ok v=>(none,dH N {v with aL:=t})
theorem ml {N:List NV} {F:aC} {s:ByteArray} {v:NV} (h:jN N F s=.ok v):v∈N/\v.aA=2:=by
 unfold jN at h
 split at h
 ·cases h
 rename_i u hu
 split at h
 ·cases h
 rename_i hk
 have ll:u.aA=2:=by simpa using hk
 cases h
 obtain⟨i,hi⟩:=Sq hu;exact⟨(vT hi (by rw[ll];decide)).1,ll⟩
variable (w0 w:World) (fb mb:Nat) (N:List NV) (F:aC) (ar:Int) (l2:List aI)
theorem l5 (hR:bF w0) (h:aJ w0 w fb mb N F ar l2) (hF:Fits N F ar) (s t:ByteArray) (hs:s.size<=4000000000) (ht:t.size<=4000000000):
 Calls prog 32 #[.pointer (some ⟨fb,0,none⟩),.string s,.string t] w fun e w'=>e=.returned (bH (iY N F s t).1)/\aJ w0 w' fb mb (iY N F s t).2 F ar l2:=by
 by_cases T9:20<t.size
 ·have hW:iY N F s t=(some 2,N):=by unfold iY;rw[if_pos T9]
  rw[hW];have hz:(20:Int)<(t.size:Int):=by omega
  have H:=aq h;clear h hF hR hW;go_enter func32,ntmps32;go_wp2_with fail;go_ret;exact⟨rfl,an H⟩
 have hz:¬(20:Int)<(t.size:Int):=by omega
 have hf:=Bp w0 w fb mb N F ar l2 hR h hF s hs;unfold iY;rw[if_neg T9];have VV:Hid (∀v,jN N F s=.ok v->0<=v.id/\v.id<=999):=fun v hv=>hF.id v (ml hv).1
 have HN:Hid (N.length<=1000):=by have:=hF.ix;show _<=_;omega
 generalize jN N F s=r at hf VV ⊢
 cases r with
 |error k=>simp only[cZ,gv]at hf;have D4:=aq hf;clear hf h hF hR VV;go_enter func32,ntmps32;go_wp2_with fail;refine(an D4).mono ?_;rintro e w2 ⟨rfl,h2⟩;have H3:=aq (h2.aY 107 [.int .i64 0,.int .i64 0,.int .i64 0,.int .i64 0,.string ⟨#[]⟩,.pointer none]);clear h2 D4;go_wp2_with fail;go_ret;exact⟨rfl,(an H3).aD []⟩
 |ok v=>
  simp only[cZ,j8]at hf;have D4:=aq hf;obtain⟨i0,i1⟩:=an VV v rfl;clear hf h hF hR VV;go_enter func32,ntmps32;go_wp2_with fail;refine(an D4).mono ?_;rintro e w2 ⟨rfl,h2⟩;obtain⟨C,hC⟩:=aa w2.heap.size;have h3:=h2.aY 107 [.int .i64 v.id,.int .i64 v.aA,.int .i64 v.up,.int .i64 v.aB,.string t,.pointer v.ptr];rw[hC]at h3;obtain⟨w3,hw3⟩:=aa (w2.alloc (.cells [.int .i64 v.id,.int .i64 v.aA,.int .i64 v.up,.int .i64 v.aB,.string t,.pointer v.ptr].toArray 107));rw[hw3]at h3;have q0:=h3.kP
  obtain⟨n0,n1,n2,n3,n4,n5,_⟩:=h3.mP (b:=C) ae;obtain⟨w4,fq,h4⟩:=h3.drew.nj (an HN) {v with aL:=t} (il (by simp only;omega) (by simp only;omega));unfold NV.val NV.ptr at fq;simp only at fq;have vA:Sem.run prog (Instr.mapUpdate 124 (.map (some mb)) (.int .i64 v.id) (.agg #[.int .i64 v.id,.int .i64 v.aA,.int .i64 v.up,.int .i64 v.aB,.string t,.pointer v.ptr])) w3.drew=.ok () w4:=fq;have H4:=aq h4;clear h2 D4 h3 h4 fq;go_wp2_with fail
  go_region
  all_goals
   go_wp2_with fail
   go_ret;exact⟨rfl,(an H4).aD []⟩
end
section
def PL.tb (p:PL):Nat:=p.v.tb.getD 0
theorem bj.iq {N:List NV} {F:aC} {p:PL} (h:bj N F p):p.v.tb=some p.tb/\p.tb∈F.map (·.1):=by
 obtain⟨tb,h1,h2⟩:=h.tree;unfold PL.tb;rw[h1];exact⟨rfl,h2⟩
noncomputable def jt (N:List NV) (F:aC) (s t:ByteArray):Option Int×List NV×aC:=match jN N F s with
 |.error k=>(some k,N,F)
 |.ok v=>match fU N F t with
  |.error k=>(some k,N,F)
  |.ok p=>(none,dH N {v with aB:=v.aB+1},gl F p.tb ⟨p.az,p.name,v.id⟩)
variable (w0 w:World) (fb mb:Nat) (N:List NV) (F:aC) (ar:Int) (l2:List aI)
theorem Kz (hR:bF w0) (h:aJ w0 w fb mb N F ar l2) (hF:Fits N F ar) (hL:∀v∈N,0<=v.aB/\v.aB<=1000000) (s t:ByteArray) (hs:s.size<=4000000000) (ht:t.size<=4000000000):
 Calls prog 33 #[.pointer (some ⟨fb,0,none⟩),.string s,.string t] w fun e w'=>e=.returned (bH (jt N F s t).1)/\aJ w0 w' fb mb (jt N F s t).2.1 (jt N F s t).2.2 ar l2:=by
 have hf:=Bp w0 w fb mb N F ar l2 hR h hF s hs;have hg:=fun(wx:World) (l:List aI) (hx:aJ w0 wx fb mb N F ar l)=>uH w0 wx fb mb N F ar l hR hx hF t ht
 unfold jt
 have VV:Hid (∀v,jN N F s=.ok v->0<=v.id/\v.id<=999/\0<=v.aB/\v.aB<=1000000):=fun v hv=>by have h1:=(ml hv).1;have h2:=hF.id v h1;have h3:=hL v h1;exact⟨h2.1,h2.2,h3.1,h3.2⟩
 have HN:Hid (N.length<=1000):=by have:=hF.ix;show _<=_;omega
 have xI:Hid (∀p,fU N F t=.ok p->bj N F p):=fun p hp=>(gS hF hp).1
 generalize jN N F s=r at hf VV ⊢;generalize fU N F t=r2 at hg xI ⊢
 cases r with
 |error k=>simp only[cZ,gv]at hf;have D4:=aq hf;clear hf h hF hR VV hg xI hL;go_enter func33,ntmps33;go_wp2_with fail;refine(an D4).mono ?_;rintro e w2 ⟨rfl,h2⟩;have H3:=aq (h2.aY 107 [.int .i64 0,.int .i64 0,.int .i64 0,.int .i64 0,.string ⟨#[]⟩,.pointer none]);clear h2 D4;go_wp2_with fail;go_ret;exact⟨rfl,(an H3).aD []⟩
 |ok v=>
  simp only[cZ,j8]at hf;have D4:=aq hf;obtain⟨i0,i1,i2,i3⟩:=an VV v rfl;have HG:=aq hg;clear hf h hF hR VV hg hL;go_enter func33,ntmps33;go_wp2_with fail;refine(an D4).mono ?_;rintro e w2 ⟨rfl,h2⟩;obtain⟨C,hC⟩:=aa w2.heap.size;have h3:=h2.aY 107 [.int .i64 v.id,.int .i64 v.aA,.int .i64 v.up,.int .i64 v.aB,.string v.aL,.pointer v.ptr];rw[hC]at h3;obtain⟨w3,hw3⟩:=aa (w2.alloc (.cells [.int .i64 v.id,.int .i64 v.aA,.int .i64 v.up,.int .i64 v.aB,.string v.aL,.pointer v.ptr].toArray 107))
  rw[hw3]at h3;have TZ:=an HG w3 _ h3
  cases r2 with
  |error k=>simp only[fO,gO]at TZ;have HG3:=aq TZ;clear h2 h3 TZ HG D4 xI;go_wp2_with fail;refine(an HG3).mono ?_;rintro e w4 ⟨rfl,h4⟩;have H5:=aq (h4.aY 131 [.int .i64 0,.int .i64 0,.int .i64 0,.int .i64 0,.string ⟨#[]⟩,.pointer none,.string ⟨#[]⟩,.string ⟨#[]⟩]);clear h4 HG3;go_wp2_with fail;go_ret;exact⟨rfl,((an H5).aD []).aD []⟩
  |ok p=>
   simp only[fO,km]at TZ;have jc:=an xI p rfl;obtain⟨jh,htf⟩:=jc.iq;have iI:p.az.toList.isEmpty=false:=by rw[jc.az];exact kR jc.name
   have HG3:=aq TZ;have VS:=aq jh;have YK:=aq htf;have LO:=aq iI;clear h2 h3 TZ HG D4 xI jc jh htf iI;go_wp2_with fail;refine(an HG3).mono ?_;rintro e w4 ⟨rfl,h4⟩;obtain⟨E,hE⟩:=aa w4.heap.size;have h5:=h4.aY 131 [.int .i64 p.v.id,.int .i64 p.v.aA,.int .i64 p.v.up,.int .i64 p.v.aB,.string p.v.aL,.pointer p.v.ptr,.string p.az,.string p.name];rw[hE]at h5;obtain⟨w5,hw5⟩:=aa (w4.alloc (.cells [.int .i64 p.v.id,.int .i64 p.v.aA,.int .i64 p.v.up,.int .i64 p.v.aB,.string p.v.aL,.pointer p.v.ptr,.string p.az,.string p.name].toArray 131))
   rw[hw5]at h5;have c3:=(h5.mP (b:=C) af).2.2.2.1;have f3:=h5.frozenAt (b:=C) af 3;have h6:=aJ.store [_] h5 3 (.int .i64 (v.aB+1)) _ rfl;obtain⟨w6,hw6⟩:=aa (w5.setCell ⟨C,3,none⟩ (.int .i64 (v.aB+1)));rw[hw6]at h6;have q0:=h6.kP;obtain⟨n0,n1,n2,n3,n4,n5,_⟩:=h6.mP (b:=C) af;obtain⟨w7,fq,h7⟩:=h6.drew.nj (an HN) {v with aB:=v.aB+1} (il (by simp only;omega) (by simp only;omega));unfold NV.val NV.ptr at fq;simp only at fq;have vA:Sem.run prog (Instr.mapUpdate 124 (.map (some mb)) (.int .i64 v.id) (.agg #[.int .i64 v.id,.int .i64 v.aA,.int .i64 v.up,.int .i64 (v.aB+1),.string v.aL,.pointer v.ptr])) w6.drew=.ok () w7:=fq
   have xj:=qj w0 w7 fb mb _ F ar _ h7 p v.id p.tb (an VS) (an YK) (an LO);unfold PL.val at xj;have Xa:=aq xj;obtain⟨e0,e1,e2,e3,e4,e5,e6,e7,_⟩:=h7.eight (b:=E) ae;obtain⟨d0,d1,d2,d3,d4,d5,_⟩:=h7.mP (b:=C) af;clear h4 HG3 h5 h6 h7 fq xj;go_wp2_with fail
   go_region
   all_goals
    go_wp2_with fail
    refine(an Xa).mono ?_;rintro e w8 ⟨rfl,h8⟩;have H8:=aq h8;clear h8 Xa;go_wp2_with fail;go_ret;exact⟨rfl,((an H8).aD []).aD []⟩
end
section
theorem aJ.MM {w0 w:World} {fb mb:Nat} {N:List NV} {F:aC} {ar:Int} {l2:List aI} (h:aJ w0 w fb mb N F ar l2) (j:Nat):w.frozen? ⟨fb,j,none⟩=false:=by
 obtain⟨rs,hr,H⟩:=h;exact H.frozenAt ae j
theorem aJ.bump {w0 w:World} {fb mb:Nat} {N:List NV} {F:aC} {ar:Int} {l2:List aI} (h:aJ w0 w fb mb N F ar l2) (m:Int):aJ w0 (w.setCell ⟨fb,1,none⟩ (.int .i64 m)) fb mb N F m l2:=by
 obtain⟨rs,hr,H⟩:=h;exact⟨rs,hr,H.store [] 1 (.int .i64 m) _ rfl⟩
variable (w0 w:World) (fb mb:Nat) (N:List NV) (F:aC) (ar:Int) (l2:List aI)
def nM (s aL:ByteArray) (e:Ending) (w':World):Prop:=match fU N F s with
 |.error k=>e=.returned (.iface 88 (.int .i64 k))/\aJ w0 w' fb mb N F ar l2
 |.ok p=>if 16<=N.length∨999<ar then e=.returned (.iface 88 (.int .i64 9))/\aJ w0 w' fb mb N F ar l2
  else e=.returned .nilIface/\aJ w0 w' fb mb (dH N ⟨ar,2,0,1,aL,none⟩) (gl F p.tb ⟨p.az,p.name,ar⟩) (ar+1) l2
theorem Ta (hR:bF w0) (h:aJ w0 w fb mb N F ar l2) (hF:Fits N F ar) (s aL:ByteArray) (hs:s.size<=4000000000):
 Calls prog 62 #[.pointer (some ⟨fb,0,none⟩),.string s,.agg #[.int .i64 0,.int .i64 2,.int .i64 0,.int .i64 0,.string aL]] w fun e w'=>nM w0 fb mb N F ar l2 s aL e w':=by
 obtain⟨B,hB⟩:=aa w.heap.size;have h1:=h.aY 52 [.int .i64 0,.int .i64 2,.int .i64 0,.int .i64 0,.string aL];rw[hB]at h1;have hg:=uH w0 _ fb mb N F ar _ hR h1 hF s hs;have HN:Hid (N.length<=1000):=by have:=hF.ix;show _<=_;omega
 have xI:Hid (∀p,fU N F s=.ok p->bj N F p):=fun p hp=>(gS hF hp).1
 have tn:=hF.ix;have sU:=hF.ar;unfold nM;generalize fU N F s=r at hg xI ⊢;obtain⟨nn,nN⟩:=aa N.length;have mB:Hid (∀wx l,aJ w0 wx fb mb N F ar l->∀ty,(Builtin.len_ #[124] ty #[.map (some mb)]).run prog wx=.ok (.int .i64 nn) wx):=fun wx l hx ty=>by rw[<-nN];exact Ey hx.wW ty
 rw[nN]at tn ⊢;clear h h1 hF hR
 cases r with
 |error k=>simp only[fO,gO]at hg;have HG:=aq hg;clear hg xI mB;go_enter func62,ntmps62;go_wp2_with fail;refine(an HG).mono ?_;rintro e w2 ⟨rfl,h2⟩;have H3:=aq (h2.aY 131 [.int .i64 0,.int .i64 0,.int .i64 0,.int .i64 0,.string ⟨#[]⟩,.pointer none,.string ⟨#[]⟩,.string ⟨#[]⟩]);clear h2 HG;go_wp2_with fail;go_ret;exact⟨rfl,((an H3).aD []).aD []⟩
 |ok p=>
  simp only[fO,km]at hg ⊢;have jc:=an xI p rfl;obtain⟨jh,htf⟩:=jc.iq;have iI:p.az.toList.isEmpty=false:=by rw[jc.az];exact kR jc.name
  have HG:=aq hg;have VS:=aq jh;have YK:=aq htf;have LO:=aq iI;clear hg xI jc jh htf iI
  by_cases gr:16<=nn∨999<ar
  ·simp only[if_pos gr]
   by_cases hz0:16<=nn
   ·have fE:(16:Int)<=(nn:Int):=by omega
    clear gr;go_enter func62,ntmps62;go_wp2_with fail;refine(an HG).mono ?_;rintro e w2 ⟨rfl,h2⟩;obtain⟨C,hC⟩:=aa w2.heap.size;have h3:=h2.aY 131 [.int .i64 p.v.id,.int .i64 p.v.aA,.int .i64 p.v.up,.int .i64 p.v.aB,.string p.v.aL,.pointer p.v.ptr,.string p.az,.string p.name];rw[hC]at h3;obtain⟨w3,hw3⟩:=aa (w2.alloc (.cells [.int .i64 p.v.id,.int .i64 p.v.aA,.int .i64 p.v.up,.int .i64 p.v.aB,.string p.v.aL,.pointer p.v.ptr,.string p.az,.string p.name].toArray 131));rw[hw3]at h3;have q0:=h3.kP
    have q1:=h3.ni;have hlen:=an mB w3 _ h3;have H3:=aq h3;clear h2 h3 HG;go_wp2_with fail;go_ret;exact⟨rfl,((an H3).aD []).aD []⟩
   ·have fE:¬(16:Int)<=(nn:Int):=by omega
    have fD:(999:Int)<ar:=by omega
    clear gr;go_enter func62,ntmps62;go_wp2_with fail;refine(an HG).mono ?_;rintro e w2 ⟨rfl,h2⟩;obtain⟨C,hC⟩:=aa w2.heap.size;have h3:=h2.aY 131 [.int .i64 p.v.id,.int .i64 p.v.aA,.int .i64 p.v.up,.int .i64 p.v.aB,.string p.v.aL,.pointer p.v.ptr,.string p.az,.string p.name];rw[hC]at h3;obtain⟨w3,hw3⟩:=aa (w2.alloc (.cells [.int .i64 p.v.id,.int .i64 p.v.aA,.int .i64 p.v.up,.int .i64 p.v.aB,.string p.v.aL,.pointer p.v.ptr,.string p.az,.string p.name].toArray 131));rw[hw3]at h3;have q0:=h3.kP
    have q1:=h3.ni;have hlen:=an mB w3 _ h3;have H3:=aq h3;clear h2 h3 HG;go_wp2_with fail;go_ret;exact⟨rfl,((an H3).aD []).aD []⟩
  ·simp only[if_neg gr];have fE:¬(16:Int)<=(nn:Int):=by omega
   have fD:¬(999:Int)<ar:=by omega
   clear gr;go_enter func62,ntmps62;go_wp2_with fail;refine(an HG).mono ?_;rintro e w2 ⟨rfl,h2⟩;obtain⟨C,hC⟩:=aa w2.heap.size;have h3:=h2.aY 131 [.int .i64 p.v.id,.int .i64 p.v.aA,.int .i64 p.v.up,.int .i64 p.v.aB,.string p.v.aL,.pointer p.v.ptr,.string p.az,.string p.name];rw[hC]at h3;obtain⟨w3,hw3⟩:=aa (w2.alloc (.cells [.int .i64 p.v.id,.int .i64 p.v.aA,.int .i64 p.v.up,.int .i64 p.v.aB,.string p.v.aL,.pointer p.v.ptr,.string p.az,.string p.name].toArray 131));rw[hw3]at h3;have q0:=h3.kP;have q1:=h3.ni
   have hlen:=an mB w3 _ h3;have b0:w3.cell? ⟨B,0,none⟩=some (.int .i64 0):=h3.cellAt af rfl;have b1:w3.cell? ⟨B,1,none⟩=some (.int .i64 2):=h3.cellAt af rfl;have b3:w3.cell? ⟨B,3,none⟩=some (.int .i64 0):=h3.cellAt af rfl;have f0:=h3.frozenAt (b:=B) af 0;have f3:=h3.frozenAt (b:=B) af 3;have h4:=aJ.store [_] (aJ.store [_] h3 0 (.int .i64 ar) _ rfl) 3 (.int .i64 1) _ rfl;obtain⟨w4,qy⟩:=aa ((w3.setCell ⟨B,0,none⟩ (.int .i64 ar)).setCell ⟨B,3,none⟩ (.int .i64 1))
   rw[qy]at h4;have nR:=fun(wx:World) (l:List aI) (hx:aJ w0 wx fb mb N F ar l)=>yc w0 wx fb mb N F ar l hx ar 2 0 1 aL (by decide)
   have Qc:=aq nR;have H4:=aq h4
   have rh:Hid (w4.drew.cell? ⟨fb,0,none⟩=some (.map (some mb))/\w4.drew.cell? ⟨B,0,none⟩=some (.int .i64 ar)/\w4.drew.cell? ⟨B,1,none⟩=some (.int .i64 2)/\w4.drew.cell? ⟨B,2,none⟩=some (.int .i64 0)/\w4.drew.cell? ⟨B,3,none⟩=some (.int .i64 1)/\w4.drew.cell? ⟨B,4,none⟩=some (.string aL)):=
    ⟨h4.drew.kP,h4.drew.cellAt af rfl,h4.drew.cellAt af rfl,h4.drew.cellAt af rfl,h4.drew.cellAt af rfl,h4.drew.cellAt af rfl⟩
   have c1:w4.cell? ⟨B,1,none⟩=some (.int .i64 2):=h4.cellAt af rfl;have D0:Hid (∀wx M l,aJ w0 wx fb mb M F ar l->aI.cell B 52 [.int .i64 ar,.int .i64 2,.int .i64 0,.int .i64 1,.string aL]∈l->wx.cell? ⟨fb,0,none⟩=some (.map (some mb))/\wx.cell? ⟨B,0,none⟩=some (.int .i64 ar)/\wx.cell? ⟨B,1,none⟩=some (.int .i64 2)/\wx.cell? ⟨B,2,none⟩=some (.int .i64 0)/\wx.cell? ⟨B,3,none⟩=some (.int .i64 1)/\wx.cell? ⟨B,4,none⟩=some (.string aL)):=fun wx M l hx hm=>⟨hx.kP,hx.cellAt hm rfl,hx.cellAt hm rfl,hx.cellAt hm rfl,hx.cellAt hm rfl,hx.cellAt hm rfl⟩
   clear h2 h3 h4 HG nR;go_wp2_with fail
   go_region_held (fun w'=>w'.cell? ⟨fb,0,none⟩=some (.map (some mb))/\w'.cell? ⟨B,0,none⟩=some (.int .i64 ar)/\w'.cell? ⟨B,1,none⟩=some (.int .i64 2)/\w'.cell? ⟨B,2,none⟩=some (.int .i64 0)/\w'.cell? ⟨B,3,none⟩=some (.int .i64 1)/\w'.cell? ⟨B,4,none⟩=some (.string aL)) (first|exact an xK|exact an M8|exact an rh) ((go_at_call 83;refine(an Qc _ _ (an H4).drew).mono ?_;rintro e w5 ⟨rfl,h5⟩;have M8:=aq (an D0 _ _ _ h5 af);obtain⟨w6,fq,h6⟩:=h5.nj (an HN) ⟨ar,2,0,1,aL,none⟩ (il (by simp only;omega) (by simp only;omega));have vA:Sem.run prog (Instr.mapUpdate 124 (.map (some mb)) (.int .i64 ar) (.agg #[.int .i64 ar,.int .i64 2,.int .i64 0,.int .i64 1,.string aL,.pointer none])) w5=.ok () w6:=fq;have xK:=aq (an D0 _ _ _ h6 af);have H6:=aq h6;clear h5 h6 fq))
   have h6:=an H6;have q1:=h6.ni;have g1:=h6.MM 1;have h7:=h6.bump (ar+1);obtain⟨w7,hw7⟩:=aa (w6.setCell ⟨fb,1,none⟩ (.int .i64 (ar+1)));rw[hw7]at h7;obtain⟨e0,e1,e2,e3,e4,e5,e6,e7,_⟩:=h7.eight (b:=C) ae;have b0:w7.cell? ⟨B,0,none⟩=some (.int .i64 ar):=h7.cellAt af rfl;have xj:=qj w0 w7 fb mb _ F (ar+1) _ h7 p ar p.tb (an VS) (an YK) (an LO);unfold PL.val at xj;have Xa:=aq xj;clear h6 h7 xj rh M8 xK H4 Qc D0 H6 c1 hlen;go_wp2_with fail;refine(an Xa).mono ?_
   rintro e w8 ⟨rfl,h8⟩;have H8:=aq h8;clear h8 Xa;go_wp2_with fail;go_ret;exact⟨rfl,((an H8).aD []).aD []⟩
end
section
variable (w0 w:World) (fb mb:Nat) (N:List NV) (F:aC) (ar:Int) (l2:List aI)
def la (s aL:ByteArray) (e:Ending) (w':World):Prop:=match fU N F s with
 |.error k=>e=.returned (.iface 88 (.int .i64 k))/\aJ w0 w' fb mb N F ar l2
 |.ok p=>if 16<=N.length∨999<ar then e=.returned (.iface 88 (.int .i64 9))/\aJ w0 w' fb mb N F ar l2
  else e=.returned .nilIface/\∃tb,aJ w0 w' fb mb (dH N ⟨ar,1,p.v.id,1,aL,some tb⟩) (gl ((tb,[])::F) p.tb ⟨p.az,p.name,ar⟩) (ar+1) l2
theorem LD (hR:bF w0) (h:aJ w0 w fb mb N F ar l2) (hF:Fits N F ar) (s aL:ByteArray) (hs:s.size<=4000000000):
 Calls prog 62 #[.pointer (some ⟨fb,0,none⟩),.string s,.agg #[.int .i64 0,.int .i64 1,.int .i64 0,.int .i64 0,.string aL]] w fun e w'=>la w0 fb mb N F ar l2 s aL e w':=by
 obtain⟨B,hB⟩:=aa w.heap.size;have h1:=h.aY 52 [.int .i64 0,.int .i64 1,.int .i64 0,.int .i64 0,.string aL];rw[hB]at h1;have hg:=uH w0 _ fb mb N F ar _ hR h1 hF s hs;have HN:Hid (N.length<=1000):=by have:=hF.ix;show _<=_;omega
 have xI:Hid (∀p,fU N F s=.ok p->bj N F p):=fun p hp=>(gS hF hp).1
 have tn:=hF.ix;have sU:=hF.ar;unfold la;generalize fU N F s=r at hg xI ⊢;obtain⟨nn,nN⟩:=aa N.length;have mB:Hid (∀wx l,aJ w0 wx fb mb N F ar l->∀ty,(Builtin.len_ #[124] ty #[.map (some mb)]).run prog wx=.ok (.int .i64 nn) wx):=fun wx l hx ty=>by rw[<-nN];exact Ey hx.wW ty
 rw[nN]at tn ⊢;clear h h1 hF hR
 cases r with
 |error k=>simp only[fO,gO]at hg;have HG:=aq hg;clear hg xI mB;go_enter func62,ntmps62;go_wp2_with fail;refine(an HG).mono ?_;rintro e w2 ⟨rfl,h2⟩;have H3:=aq (h2.aY 131 [.int .i64 0,.int .i64 0,.int .i64 0,.int .i64 0,.string ⟨#[]⟩,.pointer none,.string ⟨#[]⟩,.string ⟨#[]⟩]);clear h2 HG;go_wp2_with fail;go_ret;exact⟨rfl,((an H3).aD []).aD []⟩
 |ok p=>
  simp only[fO,km]at hg ⊢;have jc:=an xI p rfl;obtain⟨jh,htf⟩:=jc.iq;have iI:p.az.toList.isEmpty=false:=by rw[jc.az];exact kR jc.name
  have HG:=aq hg;have VS:=aq jh;have YK:=aq htf;have LO:=aq iI;clear hg xI jc jh htf iI
  by_cases gr:16<=nn∨999<ar
  ·simp only[if_pos gr]
   by_cases hz0:16<=nn
   ·have fE:(16:Int)<=(nn:Int):=by omega
    clear gr;go_enter func62,ntmps62;go_wp2_with fail;refine(an HG).mono ?_;rintro e w2 ⟨rfl,h2⟩;obtain⟨C,hC⟩:=aa w2.heap.size;have h3:=h2.aY 131 [.int .i64 p.v.id,.int .i64 p.v.aA,.int .i64 p.v.up,.int .i64 p.v.aB,.string p.v.aL,.pointer p.v.ptr,.string p.az,.string p.name];rw[hC]at h3;obtain⟨w3,hw3⟩:=aa (w2.alloc (.cells [.int .i64 p.v.id,.int .i64 p.v.aA,.int .i64 p.v.up,.int .i64 p.v.aB,.string p.v.aL,.pointer p.v.ptr,.string p.az,.string p.name].toArray 131));rw[hw3]at h3;have q0:=h3.kP
    have q1:=h3.ni;have hlen:=an mB w3 _ h3;have H3:=aq h3;clear h2 h3 HG;go_wp2_with fail;go_ret;exact⟨rfl,((an H3).aD []).aD []⟩
   ·have fE:¬(16:Int)<=(nn:Int):=by omega
    have fD:(999:Int)<ar:=by omega
    clear gr;go_enter func62,ntmps62;go_wp2_with fail;refine(an HG).mono ?_;rintro e w2 ⟨rfl,h2⟩;obtain⟨C,hC⟩:=aa w2.heap.size;have h3:=h2.aY 131 [.int .i64 p.v.id,.int .i64 p.v.aA,.int .i64 p.v.up,.int .i64 p.v.aB,.string p.v.aL,.pointer p.v.ptr,.string p.az,.string p.name];rw[hC]at h3;obtain⟨w3,hw3⟩:=aa (w2.alloc (.cells [.int .i64 p.v.id,.int .i64 p.v.aA,.int .i64 p.v.up,.int .i64 p.v.aB,.string p.v.aL,.pointer p.v.ptr,.string p.az,.string p.name].toArray 131));rw[hw3]at h3;have q0:=h3.kP
    have q1:=h3.ni;have hlen:=an mB w3 _ h3;have H3:=aq h3;clear h2 h3 HG;go_wp2_with fail;go_ret;exact⟨rfl,((an H3).aD []).aD []⟩
  ·simp only[if_neg gr];have fE:¬(16:Int)<=(nn:Int):=by omega
   have fD:¬(999:Int)<ar:=by omega
   clear gr;go_enter func62,ntmps62;go_wp2_with fail;refine(an HG).mono ?_;rintro e w2 ⟨rfl,h2⟩;obtain⟨C,hC⟩:=aa w2.heap.size;have h3:=h2.aY 131 [.int .i64 p.v.id,.int .i64 p.v.aA,.int .i64 p.v.up,.int .i64 p.v.aB,.string p.v.aL,.pointer p.v.ptr,.string p.az,.string p.name];rw[hC]at h3;obtain⟨w3,hw3⟩:=aa (w2.alloc (.cells [.int .i64 p.v.id,.int .i64 p.v.aA,.int .i64 p.v.up,.int .i64 p.v.aB,.string p.v.aL,.pointer p.v.ptr,.string p.az,.string p.name].toArray 131));rw[hw3]at h3;have q0:=h3.kP;have q1:=h3.ni
   have hlen:=an mB w3 _ h3;have b0:w3.cell? ⟨B,0,none⟩=some (.int .i64 0):=h3.cellAt af rfl;have b1:w3.cell? ⟨B,1,none⟩=some (.int .i64 1):=h3.cellAt af rfl;have b3:w3.cell? ⟨B,3,none⟩=some (.int .i64 0):=h3.cellAt af rfl;have f0:=h3.frozenAt (b:=B) af 0;have f3:=h3.frozenAt (b:=B) af 3;have XI:=aJ.store [_] (aJ.store [_] h3 0 (.int .i64 ar) _ rfl) 3 (.int .i64 1) _ rfl;obtain⟨wx,dE⟩:=aa ((w3.setCell ⟨B,0,none⟩ (.int .i64 ar)).setCell ⟨B,3,none⟩ (.int .i64 1))
   rw[dE]at XI;have x1:wx.cell? ⟨B,1,none⟩=some (.int .i64 1):=XI.cellAt af rfl;have x2:wx.cell? ⟨B,2,none⟩=some (.int .i64 0):=XI.cellAt af rfl;have xf2:=XI.frozenAt (b:=B) af 2;have y0:wx.cell? ⟨C,0,none⟩=some (.int .i64 p.v.id):=XI.cellAt ae rfl;have h4:=aJ.store [_] XI 2 (.int .i64 p.v.id) _ rfl;obtain⟨w4,qy⟩:=aa (wx.setCell ⟨B,2,none⟩ (.int .i64 p.v.id));rw[qy]at h4;have nR:=fun(wx:World) (l:List aI) (hx:aJ w0 wx fb mb N F ar l)=>oD w0 wx fb mb N F ar l hx ar p.v.id 1 aL
   have Qc:=aq nR;have H4:=aq h4
   have rh:Hid (w4.drew.cell? ⟨fb,0,none⟩=some (.map (some mb))/\w4.drew.cell? ⟨B,0,none⟩=some (.int .i64 ar)/\w4.drew.cell? ⟨B,1,none⟩=some (.int .i64 1)/\w4.drew.cell? ⟨B,2,none⟩=some (.int .i64 p.v.id)/\w4.drew.cell? ⟨B,3,none⟩=some (.int .i64 1)/\w4.drew.cell? ⟨B,4,none⟩=some (.string aL)):=
    ⟨h4.drew.kP,h4.drew.cellAt af rfl,h4.drew.cellAt af rfl,h4.drew.cellAt af rfl,h4.drew.cellAt af rfl,h4.drew.cellAt af rfl⟩
   have D0:Hid (∀wx M G l,aJ w0 wx fb mb M G ar l->aI.cell B 52 [.int .i64 ar,.int .i64 1,.int .i64 p.v.id,.int .i64 1,.string aL]∈l->wx.cell? ⟨fb,0,none⟩=some (.map (some mb))/\wx.cell? ⟨B,0,none⟩=some (.int .i64 ar)/\wx.cell? ⟨B,1,none⟩=some (.int .i64 1)/\wx.cell? ⟨B,2,none⟩=some (.int .i64 p.v.id)/\wx.cell? ⟨B,3,none⟩=some (.int .i64 1)/\wx.cell? ⟨B,4,none⟩=some (.string aL)):=fun wx M G l hx hm=>⟨hx.kP,hx.cellAt hm rfl,hx.cellAt hm rfl,hx.cellAt hm rfl,hx.cellAt hm rfl,hx.cellAt hm rfl⟩
   clear h2 h3 h4 HG nR XI;go_wp2_with fail
   go_region_held (fun w'=>w'.cell? ⟨fb,0,none⟩=some (.map (some mb))/\w'.cell? ⟨B,0,none⟩=some (.int .i64 ar)/\w'.cell? ⟨B,1,none⟩=some (.int .i64 1)/\w'.cell? ⟨B,2,none⟩=some (.int .i64 p.v.id)/\w'.cell? ⟨B,3,none⟩=some (.int .i64 1)/\w'.cell? ⟨B,4,none⟩=some (.string aL)) (first|exact an xK|exact an M8|exact an rh) ((go_at_call 83;refine(an Qc _ _ (an H4).drew).mono ?_;rintro e w5 ⟨tb,rfl,h5⟩;have M8:=aq (an D0 _ _ _ _ h5 af);obtain⟨w6,fq,h6⟩:=h5.nj (an HN) ⟨ar,1,p.v.id,1,aL,some tb⟩ (il (by simp only;omega) (by simp only;omega));have vA:Sem.run prog (Instr.mapUpdate 124 (.map (some mb)) (.int .i64 ar) (.agg #[.int .i64 ar,.int .i64 1,.int .i64 p.v.id,.int .i64 1,.string aL,.pointer (some ⟨tb,0,none⟩)])) w5=.ok () w6:=fq;have xK:=aq (an D0 _ _ _ _ h6 af);have H6:=aq h6;clear h5 h6 fq))
   have h6:=an H6;have q1:=h6.ni;have g1:=h6.MM 1;have h7:=h6.bump (ar+1);obtain⟨w7,hw7⟩:=aa (w6.setCell ⟨fb,1,none⟩ (.int .i64 (ar+1)));rw[hw7]at h7;obtain⟨e0,e1,e2,e3,e4,e5,e6,e7,_⟩:=h7.eight (b:=C) ae;have b0:w7.cell? ⟨B,0,none⟩=some (.int .i64 ar):=h7.cellAt af rfl;have xj:=qj w0 w7 fb mb _ ((tb,[])::F) (ar+1) _ h7 p ar p.tb (an VS) (by rw[map_cons];exact mem_cons_of_mem _ (an YK)) (an LO);unfold PL.val at xj;have Xa:=aq xj;clear h6 h7 xj rh M8 xK H4 Qc D0 H6 hlen
   go_wp2_with fail
   refine(an Xa).mono ?_;rintro e w8 ⟨rfl,h8⟩;have H8:=aq h8;clear h8 Xa;go_wp2_with fail;go_ret;exact⟨rfl,tb,((an H8).aD []).aD []⟩
theorem Ii (hR:bF w0) (h:aJ w0 w fb mb N F ar l2) (hF:Fits N F ar) (s:ByteArray) (hs:s.size<=4000000000):
 Calls prog 30 #[.pointer (some ⟨fb,0,none⟩),.string s] w fun e w'=>la w0 fb mb N F ar l2 s ⟨#[]⟩ e w':=by
 have ha:=LD w0 w fb mb N F ar l2 hR h hF s ⟨#[]⟩ hs;have HA:=aq ha;clear ha h hF hR;go_enter func30,ntmps30;go_wp2_with fail;refine(an HA).mono ?_;intro e w2 h2
 obtain⟨v,rfl⟩:∃v,e=.returned v:=by
  unfold la at h2
  split at h2
  ·exact⟨_,h2.1⟩
  ·split at h2
   ·exact⟨_,h2.1⟩
   ·exact⟨_,h2.1⟩
 have H2:=aq h2;clear h2 HA;go_wp2_with fail;go_ret;exact an H2
theorem FC (hR:bF w0) (h:aJ w0 w fb mb N F ar l2) (hF:Fits N F ar) (s t:ByteArray) (hs:s.size<=4000000000) (ht:t.size<=4000000000):
 Calls prog 31 #[.pointer (some ⟨fb,0,none⟩),.string s,.string t] w fun e w'=>(20<t.size/\e=.returned (.iface 88 (.int .i64 2))/\aJ w0 w' fb mb N F ar l2)∨(t.size<=20/\nM w0 fb mb N F ar l2 s t e w'):=by
 by_cases T9:20<t.size
 ·have hz:(20:Int)<(t.size:Int):=by omega
  have H:=aq h;clear h hF hR;go_enter func31,ntmps31;go_wp2_with fail;go_ret;exact .inl ⟨T9,rfl,an H⟩
 have hz:¬(20:Int)<(t.size:Int):=by omega
 have hle:t.size<=20:=by omega
 have ha:=Ta w0 w fb mb N F ar l2 hR h hF s t hs;have HA:=aq ha;clear ha h hF hR;go_enter func31,ntmps31;go_wp2_with fail;refine(an HA).mono ?_;intro e w2 h2
 obtain⟨v,rfl⟩:∃v,e=.returned v:=by
  unfold nM at h2
  split at h2
  ·exact⟨_,h2.1⟩
  ·split at h2
   ·exact⟨_,h2.1⟩
   ·exact⟨_,h2.1⟩
 have H2:=aq h2;clear h2 HA;go_wp2_with fail;go_ret;exact .inr ⟨hle,an H2⟩
end
section
variable (w0 w:World) (fb mb:Nat) (N:List NV) (F:aC) (ar:Int) (l2:List aI)
theorem uV (h:aJ w0 w fb mb N F ar l2) (hN:N.length<=1000) (p:PL) (tb:Nat) (jh:p.v.tb=some tb) (ht:tb∈F.map (·.1)) (nm:ByteArray) (nd:Int) (hi:kg nd) (hl:0<=(bW N nd).aB/\(bW N nd).aB<=1000000):
 Calls prog 68 #[.pointer (some ⟨fb,0,none⟩),p.val,.agg #[.string nm,.int .i64 nd]] w fun e w'=>e=.returned (.tuple #[])/\aJ w0 w' fb mb (cm N nd) (cD F tb p.az) ar l2:=by
 have zx:p.v.ptr=some ⟨tb,0,none⟩:=by unfold NV.ptr;rw[jh];rfl
 obtain⟨B,hB⟩:=aa w.heap.size;have h1:=(h.aY 131 [.int .i64 p.v.id,.int .i64 p.v.aA,.int .i64 p.v.up,.int .i64 p.v.aB,.string p.v.aL,.pointer (some ⟨tb,0,none⟩),.string p.az,.string p.name]).aY 100 [.string nm,.int .i64 nd];have hz:(w.alloc (.cells [.int .i64 p.v.id,.int .i64 p.v.aA,.int .i64 p.v.up,.int .i64 p.v.aB,.string p.v.aL,.pointer (some ⟨tb,0,none⟩),.string p.az,.string p.name].toArray 131)).heap.size=B+1:=by simp[hB]
 rw[hz,hB]at h1;have hd:=x8 w0 _ fb mb N F ar _ h1 p tb jh ht;have Ue:Hid (cm N nd=if (bW N nd).aB-1<1 then lN N nd else dH N {bW N nd with aB:=(bW N nd).aB-1}):=rfl;have hid:(bq N nd).isSome=true->(bW N nd).id=nd:=fun hf=>(LA hf).2
 have nR:(bq N nd).isSome=false->(bW N nd).aB=0:=fun hf=>by
  unfold bW
  cases hx:bq N nd with
  |none=>rfl
  |some v=>rw[hx]at hf;cases hf
 unfold PL.val at hd ⊢;rw[zx]at hd ⊢;obtain⟨F2,hF2⟩:=aa (gK F tb (dv (aX F tb) p.az));rw[hF2]at hd;rw[show cD F tb p.az=F2 from hF2];have HD:=aq hd;have Hi:=aq hi;have HN:=aq hN;clear h h1 hd hz hi hN hF2 zx jh ht;go_enter func68,ntmps68;go_wp2_with fail;refine(an HD).mono ?_;rintro e w2 ⟨rfl,h2⟩;clear HD hB;obtain⟨C,hC⟩:=aa w2.heap.size;have hA:=h2.aY 107 [.int .i64 0,.int .i64 0,.int .i64 0,.int .i64 0,.string ⟨#[]⟩,.pointer none];have q0:=h2.kP;have ZM:∀o,(w2.alloc o).cell? ⟨fb,0,none⟩=some (.map (some mb)):=fun o=>Lib.cell?_alloc_some o q0
 have e1:w2.cell? ⟨B+1,1,none⟩=some (.int .i64 nd):=h2.cellAt ae rfl;have e1a:∀o,(w2.alloc o).cell? ⟨B+1,1,none⟩=some (.int .i64 nd):=fun o=>Lib.cell?_alloc_some o e1
 have lj:=h2.look (an Hi) w2.drew rfl;have A4:=hA.look (an Hi) (w2.alloc (.cells #[.int .i64 0,.int .i64 0,.int .i64 0,.int .i64 0,.string ⟨#[]⟩,.pointer none] 107)).drew rfl;generalize bW N nd=u at lj A4 Ue hid nR hl
 have HU:Hid (aJ w0 (w2.alloc (.cells #[.int .i64 u.id,.int .i64 u.aA,.int .i64 u.up,.int .i64 u.aB,.string u.aL,.pointer u.ptr] 107)).drew fb mb N F2 ar (.cell C 107 [.int .i64 u.id,.int .i64 u.aA,.int .i64 u.up,.int .i64 u.aB,.string u.aL,.pointer u.ptr]::.cell (B+1) 100 [.string nm,.int .i64 nd]::.cell B 131 [.int .i64 p.v.id,.int .i64 p.v.aA,.int .i64 p.v.up,.int .i64 p.v.aB,.string p.v.aL,.pointer (some ⟨tb,0,none⟩),.string p.az,.string p.name]::l2)):=by rw[<-hC];exact(h2.aY 107 [.int .i64 u.id,.int .i64 u.aA,.int .i64 u.up,.int .i64 u.aB,.string u.aL,.pointer u.ptr]).drew
 have abY:=aq hid;have YN:=aq nR;have Hl:=aq hl;unfold NV.val at lj A4;clear h2 hA hid nR hl;go_wp2_with fail
 go_cut [6]from 9 to 15 (fun a6 wc=>∃nb:Nat,a6=.pointer (some ⟨nb,0,none⟩)/\Hid (aJ w0 wc fb mb N F2 ar (.cell nb 107 [.int .i64 u.id,.int .i64 u.aA,.int .i64 u.up,.int .i64 u.aB,.string u.aL,.pointer u.ptr]::.cell (B+1) 100 [.string nm,.int .i64 nd]::.cell B 131 [.int .i64 p.v.id,.int .i64 p.v.aA,.int .i64 p.v.up,.int .i64 p.v.aB,.string p.v.aL,.pointer (some ⟨tb,0,none⟩),.string p.az,.string p.name]::l2)))
 case first=>
  go_region
  all_goals (go_wp2_with fail;go_meet;exact⟨_,rfl,HU⟩)
 case rest=>
  obtain⟨nb,rfl,H3⟩:=hcut;clear lj A4 q0 ZM e1 e1a HU;obtain⟨A5,rY⟩:=an Hl;have k3:=((an H3).mP (b:=nb) ae).2.2.2.1;have f3:=((an H3).frozenAt (b:=nb) ae 3);have h4:=aJ.store [] (an H3) 3 (.int .i64 (u.aB-1)) _ rfl;obtain⟨w4,qy⟩:=aa (wc.setCell ⟨nb,3,none⟩ (.int .i64 (u.aB-1)));rw[qy]at h4;have q0:=h4.kP;have e1:w4.cell? ⟨B+1,1,none⟩=some (.int .i64 nd):=h4.cellAt af rfl;obtain⟨m0,m1,m2,m3,m4,m5,_⟩:=h4.mP (b:=nb) ae;have hlw:IntKind.i64.wrap (u.aB-1)=u.aB-1:=by rw[IntKind.wrap_i64];omega
  by_cases eO:u.aB-1<1
  ·obtain⟨w5,hdel,h5⟩:=h4.drew.Kw nd (an Hi) 0;have HF:Hid (cm N nd=lN N nd):=by show _=_;rw[an Ue,if_pos eO]
   have H5:=aq h5;clear h4 h5;go_wp2_with fail
   go_region
   all_goals
    go_wp2_with fail
    refine bodyPost_ret (results_none rfl _ _ _) rfl ?_;exact⟨rfl,by rw[an HF];exact(((an H5).aD []).aD []).aD []⟩
  ·have hfs:(bq N nd).isSome=true:=by
    cases hx:(bq N nd).isSome with
    |true=>rfl
    |false=>have:=an YN hx;omega
   have OB:=an abY hfs;obtain⟨w5,fq,h5⟩:=h4.drew.nj (an HN) {u with aB:=u.aB-1} (by simp only;rw[OB];exact an Hi);have HF:Hid (cm N nd=dH N {u with aB:=u.aB-1}):=by show _=_;rw[an Ue,if_neg eO]
   unfold NV.val NV.ptr at fq;simp only at fq;have H5:=aq h5;rw[OB]at fq m0;have vA:Sem.run prog (Instr.mapUpdate 124 (.map (some mb)) (.int .i64 nd) (.agg #[.int .i64 nd,.int .i64 u.aA,.int .i64 u.up,.int .i64 (u.aB-1),.string u.aL,.pointer u.ptr])) w4.drew=.ok () w5:=fq;clear h4 h5 fq hfs;go_wp2_with fail
   go_region
   all_goals
    go_wp2_with fail
    go_end0
    exact⟨rfl,by rw[an HF];exact(((an H5).aD []).aD []).aD []⟩
end
section
noncomputable def dF (N:List NV) (F:aC) (s:ByteArray) (aP:Bool):Option Int×List NV×aC:=match e8 N F s with
 |.error k=>(some k,N,F)
 |.ok (p,it)=>match fX N F it.aN (if aP then 1 else 2)with
  |some k=>(some k,N,F)
  |none=>(none,cm N it.aN,cD F p.tb p.az)
theorem tY {N:List NV} {F:aC} {ar:Int} (hF:Fits N F ar) {s:ByteArray} {p:PL} {it:aG} (h:e8 N F s=.ok (p,it)):0<=it.aN/\it.aN<=999:=by
 obtain⟨h1,h2⟩:=gI hF h;obtain⟨h3,h4⟩:=h1.iq;unfold bp at h2;rw[h3]at h2;exact hF.gA _ (dh h4) it (mem_of_find?_eq_some h2)
theorem Ir {N:List NV} (hL:∀v∈N,0<=v.aB/\v.aB<=1000000) (i:Int):0<=(bW N i).aB/\(bW N i).aB<=1000000:=by
 unfold bW
 cases hf:bq N i with
 |none=>exact⟨by simp[NV.zero],by simp[NV.zero]⟩
 |some v=>exact hL v (dm hf).1
variable (w0 w:World) (fb mb:Nat) (N:List NV) (F:aC) (ar:Int) (l2:List aI)
theorem Eo (hR:bF w0) (h:aJ w0 w fb mb N F ar l2) (hF:Fits N F ar) (hL:∀v∈N,0<=v.aB/\v.aB<=1000000) (s:ByteArray) (hs:s.size<=4000000000) (aP:Bool):
 Calls prog 34 #[.pointer (some ⟨fb,0,none⟩),.string s,.bool aP] w fun e w'=>e=.returned (bH (dF N F s aP).1)/\aJ w0 w' fb mb (dF N F s aP).2.1 (dF N F s aP).2.2 ar l2:=by
 have hg:=xO w0 w fb mb N F ar l2 hR h hF s hs;unfold dF;have HN:Hid (N.length<=1000):=by have:=hF.ix;show _<=_;omega
 have xI:Hid (∀p it,e8 N F s=.ok (p,it)->bj N F p/\0<=it.aN/\it.aN<=999):=fun p it hp=>⟨(gI hF hp).1,tY hF hp⟩
 have Y0:Hid (∀i,0<=(bW N i).aB/\(bW N i).aB<=1000000):=Ir hL;generalize e8 N F s=r at hg xI ⊢;have HF:=aq hF;clear h hF hR hL
 cases r with
 |error k=>unfold nH at hg;rw[show o7 (.error k)=.tuple #[.agg #[.int .i64 0,.int .i64 0,.int .i64 0,.int .i64 0,.string ⟨#[]⟩,.pointer none,.string ⟨#[]⟩,.string ⟨#[]⟩],.agg #[.string ⟨#[]⟩,.int .i64 0],.iface 88 (.int .i64 k)]from rfl]at hg;have HG:=aq hg;clear hg xI;go_enter func34,ntmps34;go_wp2_with fail;refine(an HG).mono ?_;rintro e w2 ⟨rfl,h2⟩;have H3:=aq ((h2.aY 131 [.int .i64 0,.int .i64 0,.int .i64 0,.int .i64 0,.string ⟨#[]⟩,.pointer none,.string ⟨#[]⟩,.string ⟨#[]⟩]).aY 100 [.string ⟨#[]⟩,.int .i64 0]);clear h2 HG;go_wp2_with fail;go_ret;exact⟨rfl,((an H3).aD []).aD []⟩
 |ok pi=>
  obtain⟨p,it⟩:=pi;obtain⟨jc,oN,Mw⟩:=an xI p it rfl;obtain⟨jh,htf⟩:=jc.iq;have Zw:Hid (kg it.aN):=il (by omega) (by omega);have Hlk:=aq (an Y0 it.aN);have VS:=aq jh;have YK:=aq htf;clear jc jh htf xI Y0
  have Ue:Hid (∀wx l,aJ w0 wx fb mb N F ar l->Calls prog 68 #[.pointer (some ⟨fb,0,none⟩),.agg #[.int .i64 p.v.id,.int .i64 p.v.aA,.int .i64 p.v.up,.int .i64 p.v.aB,.string p.v.aL,.pointer p.v.ptr,.string p.az,.string p.name],.agg #[.string it.name,.int .i64 it.aN]] wx fun e w'=>e=.returned (.tuple #[])/\aJ w0 w' fb mb (cm N it.aN) (cD F p.tb p.az) ar l):=fun wx l hx=>by have:=uV w0 wx fb mb N F ar l hx (an HN) p p.tb (an VS) (an YK) it.name it.aN (an Zw) (an Hlk);unfold PL.val at this;exact this
  simp only[nH,o7,PL.val]at hg;have HG:=aq hg;clear hg
  cases aP with
  |true=>
   simp only[if_true];have hm:=fun(wx:World) (l:List aI) (hx:aJ w0 wx fb mb N F ar l)=>rN w0 wx fb mb N F ar l hx (an HF) it.name it.aN 1 (an Zw)
   generalize fX N F it.aN 1=r2 at hm ⊢
   cases r2 with
   |some k=>
    simp only[bH]at hm;have HM:=aq hm;clear hm Ue;go_enter func34,ntmps34;go_wp2_with fail;refine(an HG).mono ?_;rintro e w2 ⟨rfl,h2⟩;obtain⟨C,hC⟩:=aa w2.heap.size;have h3:=(h2.aY 131 [.int .i64 p.v.id,.int .i64 p.v.aA,.int .i64 p.v.up,.int .i64 p.v.aB,.string p.v.aL,.pointer p.v.ptr,.string p.az,.string p.name]).aY 100 [.string it.name,.int .i64 it.aN];have hz:(w2.alloc (.cells [.int .i64 p.v.id,.int .i64 p.v.aA,.int .i64 p.v.up,.int .i64 p.v.aB,.string p.v.aL,.pointer p.v.ptr,.string p.az,.string p.name].toArray 131)).heap.size=C+1:=by simp[hC]
    rw[hz,hC]at h3;obtain⟨w3,hw3⟩:=aa ((w2.alloc (.cells [.int .i64 p.v.id,.int .i64 p.v.aA,.int .i64 p.v.up,.int .i64 p.v.aB,.string p.v.aL,.pointer p.v.ptr,.string p.az,.string p.name].toArray 131)).alloc (.cells [.string it.name,.int .i64 it.aN].toArray 100));rw[hw3]at h3;have PU:=an HM w3 _ h3;obtain⟨d0,d1,_⟩:=h3.two (b:=C+1) ae;have TC:=aq PU;clear h2 hz HG PU h3 HM;go_wp2_with fail;refine(an TC).mono ?_;rintro e w4 ⟨rfl,h4⟩;have H4:=aq h4;clear h4 TC;go_wp2_with fail;go_ret;exact⟨rfl,((an H4).aD []).aD []⟩
   |none=>
    simp only[bH]at hm;have HM:=aq hm;clear hm;go_enter func34,ntmps34;go_wp2_with fail;refine(an HG).mono ?_;rintro e w2 ⟨rfl,h2⟩;obtain⟨C,hC⟩:=aa w2.heap.size;have h3:=(h2.aY 131 [.int .i64 p.v.id,.int .i64 p.v.aA,.int .i64 p.v.up,.int .i64 p.v.aB,.string p.v.aL,.pointer p.v.ptr,.string p.az,.string p.name]).aY 100 [.string it.name,.int .i64 it.aN];have hz:(w2.alloc (.cells [.int .i64 p.v.id,.int .i64 p.v.aA,.int .i64 p.v.up,.int .i64 p.v.aB,.string p.v.aL,.pointer p.v.ptr,.string p.az,.string p.name].toArray 131)).heap.size=C+1:=by simp[hC]
    rw[hz,hC]at h3;obtain⟨w3,hw3⟩:=aa ((w2.alloc (.cells [.int .i64 p.v.id,.int .i64 p.v.aA,.int .i64 p.v.up,.int .i64 p.v.aB,.string p.v.aL,.pointer p.v.ptr,.string p.az,.string p.name].toArray 131)).alloc (.cells [.string it.name,.int .i64 it.aN].toArray 100));rw[hw3]at h3;have PU:=an HM w3 _ h3;obtain⟨d0,d1,_⟩:=h3.two (b:=C+1) ae;have TC:=aq PU;clear h2 hz HG PU h3 HM;go_wp2_with fail;refine(an TC).mono ?_;rintro e w4 ⟨rfl,h4⟩;obtain⟨e0,e1,e2,e3,e4,e5,e6,e7,_⟩:=h4.eight (b:=C) af;obtain⟨d0,d1,_⟩:=h4.two (b:=C+1) ae
    have hu:=an Ue w4 _ h4;have HU:=aq hu;clear h4 TC Ue hu;go_wp2_with fail;refine(an HU).mono ?_;rintro e w5 ⟨rfl,h5⟩;have H5:=aq h5;clear h5 HU;go_wp2_with fail;go_ret;exact⟨rfl,((an H5).aD []).aD []⟩
  |false=>
   simp only[Bool.false_eq_true,if_false];have hm:=fun(wx:World) (l:List aI) (hx:aJ w0 wx fb mb N F ar l)=>rN w0 wx fb mb N F ar l hx (an HF) it.name it.aN 2 (an Zw)
   generalize fX N F it.aN 2=r2 at hm ⊢
   cases r2 with
   |some k=>
    simp only[bH]at hm;have HM:=aq hm;clear hm Ue;go_enter func34,ntmps34;go_wp2_with fail;refine(an HG).mono ?_;rintro e w2 ⟨rfl,h2⟩;obtain⟨C,hC⟩:=aa w2.heap.size;have h3:=(h2.aY 131 [.int .i64 p.v.id,.int .i64 p.v.aA,.int .i64 p.v.up,.int .i64 p.v.aB,.string p.v.aL,.pointer p.v.ptr,.string p.az,.string p.name]).aY 100 [.string it.name,.int .i64 it.aN];have hz:(w2.alloc (.cells [.int .i64 p.v.id,.int .i64 p.v.aA,.int .i64 p.v.up,.int .i64 p.v.aB,.string p.v.aL,.pointer p.v.ptr,.string p.az,.string p.name].toArray 131)).heap.size=C+1:=by simp[hC]
    rw[hz,hC]at h3;obtain⟨w3,hw3⟩:=aa ((w2.alloc (.cells [.int .i64 p.v.id,.int .i64 p.v.aA,.int .i64 p.v.up,.int .i64 p.v.aB,.string p.v.aL,.pointer p.v.ptr,.string p.az,.string p.name].toArray 131)).alloc (.cells [.string it.name,.int .i64 it.aN].toArray 100));rw[hw3]at h3;have PU:=an HM w3 _ h3;obtain⟨d0,d1,_⟩:=h3.two (b:=C+1) ae;have TC:=aq PU;clear h2 hz HG PU h3 HM;go_wp2_with fail;refine(an TC).mono ?_;rintro e w4 ⟨rfl,h4⟩;have H4:=aq h4;clear h4 TC;go_wp2_with fail;go_ret;exact⟨rfl,((an H4).aD []).aD []⟩
   |none=>
    simp only[bH]at hm;have HM:=aq hm;clear hm;go_enter func34,ntmps34;go_wp2_with fail;refine(an HG).mono ?_;rintro e w2 ⟨rfl,h2⟩;obtain⟨C,hC⟩:=aa w2.heap.size;have h3:=(h2.aY 131 [.int .i64 p.v.id,.int .i64 p.v.aA,.int .i64 p.v.up,.int .i64 p.v.aB,.string p.v.aL,.pointer p.v.ptr,.string p.az,.string p.name]).aY 100 [.string it.name,.int .i64 it.aN];have hz:(w2.alloc (.cells [.int .i64 p.v.id,.int .i64 p.v.aA,.int .i64 p.v.up,.int .i64 p.v.aB,.string p.v.aL,.pointer p.v.ptr,.string p.az,.string p.name].toArray 131)).heap.size=C+1:=by simp[hC]
    rw[hz,hC]at h3;obtain⟨w3,hw3⟩:=aa ((w2.alloc (.cells [.int .i64 p.v.id,.int .i64 p.v.aA,.int .i64 p.v.up,.int .i64 p.v.aB,.string p.v.aL,.pointer p.v.ptr,.string p.az,.string p.name].toArray 131)).alloc (.cells [.string it.name,.int .i64 it.aN].toArray 100));rw[hw3]at h3;have PU:=an HM w3 _ h3;obtain⟨d0,d1,_⟩:=h3.two (b:=C+1) ae;have TC:=aq PU;clear h2 hz HG PU h3 HM;go_wp2_with fail;refine(an TC).mono ?_;rintro e w4 ⟨rfl,h4⟩;obtain⟨e0,e1,e2,e3,e4,e5,e6,e7,_⟩:=h4.eight (b:=C) af;obtain⟨d0,d1,_⟩:=h4.two (b:=C+1) ae
    have hu:=an Ue w4 _ h4;have HU:=aq hu;clear h4 TC Ue hu;go_wp2_with fail;refine(an HU).mono ?_;rintro e w5 ⟨rfl,h5⟩;have H5:=aq h5;clear h5 HU;go_wp2_with fail;go_ret;exact⟨rfl,((an H5).aD []).aD []⟩
end
section
variable (w0 w:World) (fb mb:Nat) (N:List NV) (F:aC) (ar:Int) (l2:List aI)
theorem Kv (h:aJ w0 w fb mb N F ar l2) (hN:N.length<=1000) (p q:PL) (tp tq:Nat) (htp:p.v.tb=some tp) (hp:tp∈F.map (·.1)) (htq:q.v.tb=some tq) (hq:tq∈F.map (·.1)) (hk:q.az.toList.isEmpty=false) (id:Int) (hi:kg id):
 Calls prog 73 #[.pointer (some ⟨fb,0,none⟩),p.val,q.val,.int .i64 id] w fun e w'=>e=.returned (.tuple #[])/\aJ w0 w' fb mb (jG N id q.v.id) (gl (cD F tp p.az) tq ⟨q.az,q.name,id⟩) ar l2:=by
 have zx:p.v.ptr=some ⟨tp,0,none⟩:=by unfold NV.ptr;rw[htp];rfl
 have hvq:q.v.ptr=some ⟨tq,0,none⟩:=by unfold NV.ptr;rw[htq];rfl
 obtain⟨B,hB⟩:=aa w.heap.size;have h1:=(h.aY 131 [.int .i64 p.v.id,.int .i64 p.v.aA,.int .i64 p.v.up,.int .i64 p.v.aB,.string p.v.aL,.pointer (some ⟨tp,0,none⟩),.string p.az,.string p.name]).aY 131 [.int .i64 q.v.id,.int .i64 q.v.aA,.int .i64 q.v.up,.int .i64 q.v.aB,.string q.v.aL,.pointer (some ⟨tq,0,none⟩),.string q.az,.string q.name];have hz:(w.alloc (.cells [.int .i64 p.v.id,.int .i64 p.v.aA,.int .i64 p.v.up,.int .i64 p.v.aB,.string p.v.aL,.pointer (some ⟨tp,0,none⟩),.string p.az,.string p.name].toArray 131)).heap.size=B+1:=by simp[hB]
 rw[hz,hB]at h1;have hd:=x8 w0 _ fb mb N F ar _ h1 p tp htp hp;obtain⟨F2,hF2⟩:=aa (gK F tp (dv (aX F tp) p.az));rw[hF2]at hd;have JV:tq∈F2.map (·.1):=by rw[<-hF2,cV];exact hq
 have pD:=fun(wx:World) (l:List aI) (hx:aJ w0 wx fb mb N F2 ar l)=>qj w0 wx fb mb N F2 ar l hx q id tq htq JV hk
 rw[show gl (cD F tp p.az) tq ⟨q.az,q.name,id⟩=gK F2 tq (da (aX F2 tq) ⟨q.az,q.name,id⟩)by unfold gl cD;rw[hF2]];obtain⟨F3,hF3⟩:=aa (gK F2 tq (da (aX F2 tq) ⟨q.az,q.name,id⟩));rw[hF3]at pD ⊢;have Hmv:Hid (jG N id q.v.id=if (bW N id).aA=1 then dH N {bW N id with up:=q.v.id} else N):=rfl;have hid:(bW N id).aA=1->(bW N id).id=id:=fun hf=>(vT (N:=N) (i:=id) rfl (by rw[hf];decide)).2
 unfold PL.val at hd pD ⊢;rw[zx]at hd ⊢;rw[hvq]at pD ⊢;have HD:=aq hd;have HP:=aq pD;have Hi:=aq hi;have HN:=aq hN;clear h h1 hd hz hi hN hF2 zx htp hp pD hF3 JV hvq htq hq hk;go_enter func73,ntmps73;go_wp2_with fail;refine(an HD).mono ?_;rintro e w2 ⟨rfl,h2⟩;have hP2:=an HP w2 _ h2;have Ug:=aq hP2;have kq:=h2.eight (b:=B+1) ae;obtain⟨k0,k1,k2,k3,k4,k5,k6,k7,_⟩:=kq;clear HD hB h2 hP2 HP;go_wp2_with fail;refine(an Ug).mono ?_;rintro e w3 ⟨rfl,h3⟩;clear Ug k0 k1 k2 k3 k4 k5 k6 k7;have q0:=h3.kP;have lj:=h3.look (an Hi) w3 rfl
 generalize bW N id=u at lj Hmv hid;have H3:=aq h3;have abY:=aq hid;unfold NV.val at lj;obtain⟨C,hC⟩:=aa w3.heap.size;have h4:=h3.aY 107 [.int .i64 u.id,.int .i64 u.aA,.int .i64 u.up,.int .i64 u.aB,.string u.aL,.pointer u.ptr];rw[hC]at h4;obtain⟨w4,qy⟩:=aa (w3.alloc (.cells [.int .i64 u.id,.int .i64 u.aA,.int .i64 u.up,.int .i64 u.aB,.string u.aL,.pointer u.ptr].toArray 107));rw[qy]at h4;have H4:=aq h4;have hf:=fun wx=>eQ u wx
 unfold NV.val at hf;obtain⟨j0,j1,j2,j3,j4,j5,_⟩:=h4.mP (b:=C) ae
 cases ji:(u.aA==1)with
 |false=>
  rw[ji]at hf;have lI:¬u.aA=1:=by simpa using ji
  have Hf:=aq hf;have HF:Hid (jG N id q.v.id=N):=by show _=_;rw[an Hmv,if_neg lI]
  clear h3 hid hf h4 lI;go_wp2_with fail;refine(an Hf _).mono ?_;rintro e w5 ⟨rfl,qR⟩;have H5:=aq ((an H4).step qR);clear qR Hf;go_wp2_with fail
  go_end0
  exact⟨rfl,by rw[an HF];exact(((an H5).aD []).aD []).aD []⟩
 |true=>
  rw[ji]at hf;have lI:u.aA=1:=by simpa using ji
  have Hf:=aq hf;have aft:=aq (hid lI);have HF:Hid (jG N id q.v.id=dH N {u with up:=q.v.id}):=by show _=_;rw[an Hmv,if_pos lI]
  clear h3 hid hf h4 lI;go_wp2_with fail;refine(an Hf _).mono ?_;rintro e w5 ⟨rfl,qR⟩;have h5:=(an H4).step qR;obtain⟨k0,k1,k2,k3,k4,k5,k6,k7,_⟩:=h5.eight (b:=B+1) af;have m2:=(h5.mP (b:=C) ae).2.2.1;have f2:=h5.frozenAt (b:=C) ae 2;have h6:=aJ.store [] h5 2 (.int .i64 q.v.id) _ rfl;obtain⟨w6,hw6⟩:=aa (w5.setCell ⟨C,2,none⟩ (.int .i64 q.v.id));rw[hw6]at h6;have q0:=h6.kP;obtain⟨n0,n1,n2,n3,n4,n5,_⟩:=h6.mP (b:=C) ae;have OB:=an aft;obtain⟨w7,fq,h7⟩:=h6.drew.nj (an HN) {u with up:=q.v.id} (by simp only;rw[OB];exact an Hi)
  unfold NV.val NV.ptr at fq;simp only at fq;rw[OB]at fq n0;have vA:Sem.run prog (Instr.mapUpdate 124 (.map (some mb)) (.int .i64 id) (.agg #[.int .i64 id,.int .i64 u.aA,.int .i64 q.v.id,.int .i64 u.aB,.string u.aL,.pointer u.ptr])) w6.drew=.ok () w7:=fq;have H7:=aq h7;clear qR Hf h5 h6 h7 fq OB;go_wp2_with fail
  go_region
  all_goals
   go_wp2_with fail
   go_end0
   exact⟨rfl,by rw[an HF];exact(((an H7).aD []).aD []).aD []⟩
end
section
noncomputable def kO (N:List NV) (F:aC) (p g:PL) (id:Int):Option Int×List NV×aC:=(none,jG N id g.v.id,gl (cD F p.tb p.az) g.tb ⟨g.az,g.name,id⟩)
noncomputable def ny (N:List NV) (F:aC) (p g:PL) (it:aG):Option Int×List NV×aC:=
 if ((bW N it.aN).aA==1&&gG N N.length g.v.id (bW N it.aN).id)=true then(some 8,N,F)else match cF (aX F g.tb) g.az with
  |none=>kO N F p g it.aN
  |some o=>if (g.v.id==p.v.id&&g.az.toList==p.az.toList)=true then kO N F p g it.aN else if o.aN=it.aN then(none,N,F)else match fX N F o.aN (bW N it.aN).aA with
   |some k=>(some k,N,F)
   |none=>kO (cm N o.aN) (cD F g.tb g.az) p g it.aN
noncomputable def dY (N:List NV) (F:aC) (s t:ByteArray):Option Int×List NV×aC:=match e8 N F s with
 |.error k=>(some k,N,F)
 |.ok (p,it)=>match dZ N F t with
  |.error k=>(some k,N,F)
  |.ok g=>ny N F p g it
variable (w0 w:World) (fb mb:Nat) (N:List NV) (F:aC) (ar:Int) (l2:List aI)
theorem GW (hF:Fits N F ar) (hL:∀v∈N,0<=v.aB/\v.aB<=1000000) (s t:ByteArray) (p g:PL) (it:aG) (jc:bj N F p) (xl:bj N F g) (oN:0<=it.aN/\it.aN<=999)
 (ht:Calls prog 66 #[.pointer (some ⟨fb,0,none⟩),.string s] w fun e w'=>nH w0 fb mb N F ar l2 (.ok (p,it)) e w')
 (hp:∀wx l,aJ w0 wx fb mb N F ar l->Calls prog 69 #[.pointer (some ⟨fb,0,none⟩),.string t] wx fun e w'=>fO w0 fb mb N F ar l (.ok g) e w'):
 Calls prog 35 #[.pointer (some ⟨fb,0,none⟩),.string s,.string t] w fun e w'=>e=.returned (bH (ny N F p g it).1)/\aJ w0 w' fb mb (ny N F p g it).2.1 (ny N F p g it).2.2 ar l2:=by
 obtain⟨Ry,pD⟩:=jc.iq;obtain⟨U3,hgt'⟩:=xl.iq;have iI:g.az.toList.isEmpty=false:=by rw[xl.az];exact kR xl.name
 have AV:kg it.aN:=il (by omega) (by omega);have aeD:=hF.id g.v xl.xf;have HN:Hid (N.length<=1000):=by have:=hF.ix;show _<=_;omega
 have Y0:Hid (∀i,0<=(bW N i).aB/\(bW N i).aB<=1000000):=Ir hL
 have Hgo:Hid (∀o,cF (aX F g.tb) g.az=some o->kg o.aN):=fun o ho=>by have:=hF.gA _ (dh hgt') o (mem_of_find?_eq_some ho);exact il (by omega) (by omega)
 have hw:=fun(wx:World) (l:List aI) (hx:aJ w0 wx fb mb N F ar l)=>mC w0 wx fb mb N F ar l hx hF g.v.id (bW N it.aN).id (il (by omega) (by omega))
 have nO:=fun(wx:World) (l:List aI) (hx:aJ w0 wx fb mb N F ar l)=>ug w0 wx fb mb N F ar l hx g g.tb U3 hgt'
 have pV:=fun(wx:World)=>G4 wx g p
 have JZ:∀(N1:List NV) (F1:aC),N1.length<=1000->p.tb∈F1.map (·.1)->g.tb∈F1.map (·.1)->∀wx l,aJ w0 wx fb mb N1 F1 ar l->Calls prog 73 #[.pointer (some ⟨fb,0,none⟩),.agg #[.int .i64 p.v.id,.int .i64 p.v.aA,.int .i64 p.v.up,.int .i64 p.v.aB,.string p.v.aL,.pointer p.v.ptr,.string p.az,.string p.name],.agg #[.int .i64 g.v.id,.int .i64 g.v.aA,.int .i64 g.v.up,.int .i64 g.v.aB,.string g.v.aL,.pointer g.v.ptr,.string g.az,.string g.name],.int .i64 it.aN] wx fun e w'=>e=.returned (.tuple #[])/\aJ w0 w' fb mb (kO N1 F1 p g it.aN).2.1 (kO N1 F1 p g it.aN).2.2 ar l:=fun N1 F1 h1 h2 h3 wx l hx=>by
  have:=Kv w0 wx fb mb N1 F1 ar l hx h1 p g p.tb g.tb Ry h2 U3 h3 iI it.aN AV;unfold PL.val at this;exact this
 have hf:=fun wx=>eQ (bW N it.aN) wx
 obtain⟨RR,sX⟩:=aa (ny N F p g it);rw[sX];unfold ny at sX;obtain⟨u,hu⟩:=aa (bW N it.aN);rw[hu]at hw hf;simp only[hu]at sX;generalize cF (aX F g.tb) g.az=g0 at nO Hgo sX;generalize (g.v.id==p.v.id&&g.az.toList==p.az.toList)=b2 at pV sX;generalize gG N N.length g.v.id u.id=b1 at hw sX;generalize (u.aA==1)=bk at hf sX;obtain⟨bb,qD⟩:=aa ((bk&&b1));rw[qD]at sX;unfold PL.val at nO pV;unfold NV.val at hf;simp only[nH,o7,PL.val]at ht;simp only[fO,km]at hp
 have HT:=aq ht;have HP:=aq hp;have HF:=aq hF;have HL:=aq hL;have Zw:=aq AV;have Hu:=aq hu;have PA:=aq pV;have Hgb:=aq U3;have VW:=aq hgt';have Hpt:=aq pD;have Qb:=aq sX;have Tt:=aq qD;have HW:=aq hw;have Hf:=aq hf;have HGt:=aq nO;have Ui:=aq JZ;clear sX qD hw hf nO JZ ht hp hF hL AV hu pV U3 hgt' pD jc xl Ry iI aeD oN;go_enter func35,ntmps35;go_wp2_with fail;refine(an HT).mono ?_;rintro e w2 ⟨rfl,h2⟩;obtain⟨C,hC⟩:=aa w2.heap.size;have h3:=(h2.aY 131 [.int .i64 p.v.id,.int .i64 p.v.aA,.int .i64 p.v.up,.int .i64 p.v.aB,.string p.v.aL,.pointer p.v.ptr,.string p.az,.string p.name]).aY 100 [.string it.name,.int .i64 it.aN]
 have hz:(w2.alloc (.cells [.int .i64 p.v.id,.int .i64 p.v.aA,.int .i64 p.v.up,.int .i64 p.v.aB,.string p.v.aL,.pointer p.v.ptr,.string p.az,.string p.name].toArray 131)).heap.size=C+1:=by simp[hC]
 rw[hz,hC]at h3;obtain⟨w3,hw3⟩:=aa ((w2.alloc (.cells [.int .i64 p.v.id,.int .i64 p.v.aA,.int .i64 p.v.up,.int .i64 p.v.aB,.string p.v.aL,.pointer p.v.ptr,.string p.az,.string p.name].toArray 131)).alloc (.cells [.string it.name,.int .i64 it.aN].toArray 100));rw[hw3]at h3;have hp3:=an HP w3 _ h3;have HP3:=aq hp3;clear h2 hz HT hp3 h3 HP;go_wp2_with fail;refine(an HP3).mono ?_;rintro e w4 ⟨rfl,h4⟩;obtain⟨D,hD⟩:=aa w4.heap.size;have h5:=h4.aY 131 [.int .i64 g.v.id,.int .i64 g.v.aA,.int .i64 g.v.up,.int .i64 g.v.aB,.string g.v.aL,.pointer g.v.ptr,.string g.az,.string g.name]
 rw[hD]at h5;obtain⟨w5,hw5⟩:=aa (w4.alloc (.cells [.int .i64 g.v.id,.int .i64 g.v.aA,.int .i64 g.v.up,.int .i64 g.v.aB,.string g.v.aL,.pointer g.v.ptr,.string g.az,.string g.name].toArray 131));rw[hw5]at h5;obtain⟨E,hE⟩:=aa w5.heap.size;have hA:=h5.aY 107 [.int .i64 0,.int .i64 0,.int .i64 0,.int .i64 0,.string ⟨#[]⟩,.pointer none];have q0:=h5.kP;have ZM:∀o,(w5.alloc o).cell? ⟨fb,0,none⟩=some (.map (some mb)):=fun o=>Lib.cell?_alloc_some o q0
 have e1:w5.cell? ⟨C+1,1,none⟩=some (.int .i64 it.aN):=h5.cellAt af rfl;have e1a:∀o,(w5.alloc o).cell? ⟨C+1,1,none⟩=some (.int .i64 it.aN):=fun o=>Lib.cell?_alloc_some o e1
 have lj:=h5.look (an Zw) w5.drew rfl;have A4:=hA.look (an Zw) (w5.alloc (.cells #[.int .i64 0,.int .i64 0,.int .i64 0,.int .i64 0,.string ⟨#[]⟩,.pointer none] 107)).drew rfl;rw[an Hu]at lj A4;unfold NV.val at lj A4
 have HU:Hid (aJ w0 (w5.alloc (.cells #[.int .i64 u.id,.int .i64 u.aA,.int .i64 u.up,.int .i64 u.aB,.string u.aL,.pointer u.ptr] 107)).drew fb mb N F ar (.cell E 107 [.int .i64 u.id,.int .i64 u.aA,.int .i64 u.up,.int .i64 u.aB,.string u.aL,.pointer u.ptr]::.cell D 131 [.int .i64 g.v.id,.int .i64 g.v.aA,.int .i64 g.v.up,.int .i64 g.v.aB,.string g.v.aL,.pointer g.v.ptr,.string g.az,.string g.name]::.cell (C+1) 100 [.string it.name,.int .i64 it.aN]::.cell C 131 [.int .i64 p.v.id,.int .i64 p.v.aA,.int .i64 p.v.up,.int .i64 p.v.aB,.string p.v.aL,.pointer p.v.ptr,.string p.az,.string p.name]::l2)):=by
  rw[<-hE];exact(h5.aY 107 [.int .i64 u.id,.int .i64 u.aA,.int .i64 u.up,.int .i64 u.aB,.string u.aL,.pointer u.ptr]).drew
 clear h4 h5 hA HP3;go_wp2_with fail
 go_cut [11]from 34 to 40 (fun a11 wc=>∃nb:Nat,a11=.pointer (some ⟨nb,0,none⟩)/\Hid (aJ w0 wc fb mb N F ar (.cell nb 107 [.int .i64 u.id,.int .i64 u.aA,.int .i64 u.up,.int .i64 u.aB,.string u.aL,.pointer u.ptr]::.cell D 131 [.int .i64 g.v.id,.int .i64 g.v.aA,.int .i64 g.v.up,.int .i64 g.v.aB,.string g.v.aL,.pointer g.v.ptr,.string g.az,.string g.name]::.cell (C+1) 100 [.string it.name,.int .i64 it.aN]::.cell C 131 [.int .i64 p.v.id,.int .i64 p.v.aA,.int .i64 p.v.up,.int .i64 p.v.aB,.string p.v.aL,.pointer p.v.ptr,.string p.az,.string p.name]::l2)))
 case first=>
  go_region
  all_goals (go_wp2_with fail;go_meet;exact⟨_,rfl,HU⟩)
 case rest=>
  obtain⟨nb,rfl,H7⟩:=hcut;clear lj A4 q0 ZM e1 e1a HU;go_upto_region 8 with fail
  go_cut [53]from 41 to 53 (fun a53 wc=>a53=.bool bb/\Hid (aJ w0 wc fb mb N F ar (.cell nb 107 [.int .i64 u.id,.int .i64 u.aA,.int .i64 u.up,.int .i64 u.aB,.string u.aL,.pointer u.ptr]::.cell D 131 [.int .i64 g.v.id,.int .i64 g.v.aA,.int .i64 g.v.up,.int .i64 g.v.aB,.string g.v.aL,.pointer g.v.ptr,.string g.az,.string g.name]::.cell (C+1) 100 [.string it.name,.int .i64 it.aN]::.cell C 131 [.int .i64 p.v.id,.int .i64 p.v.aA,.int .i64 p.v.up,.int .i64 p.v.aB,.string p.v.aL,.pointer p.v.ptr,.string p.az,.string p.name]::l2)))
  case first=>
   obtain⟨x0,x1,x2,x3,x4,x5,_⟩:=(an H7).mP (b:=nb) ae;go_wp2_with fail;refine(an Hf _).mono ?_;rintro e w8 ⟨rfl,I2⟩;have h8:=(an H7).step I2;clear I2 Hf H7;obtain⟨y0,y1,y2,y3,y4,y5,y6,y7,_⟩:=h8.eight (b:=D) af
   cases bk with
   |false=>
    have qD:false=bb:=an Tt;subst qD;have H8:=aq h8;clear h8;go_wp2_with fail
    go_meet
    exact⟨rfl,H8⟩
   |true=>
    have qD:b1=bb:=an Tt;subst qD;obtain⟨z0,z1,z2,z3,z4,z5,_⟩:=h8.mP (b:=nb) ae;have hw8:=an HW w8 _ h8;have HW8:=aq hw8;have H8:=aq h8;clear h8 hw8 HW;go_wp2_with fail;refine(an HW8).mono ?_;rintro e w8b ⟨rfl,rfl⟩;clear HW8;go_wp2_with fail
    go_meet
    exact⟨rfl,H8⟩
  case rest=>
   obtain⟨rfl,H8⟩:=hcut;clear H7 Hf HW Tt;have sX:=an Qb
   cases bb with
   |true=>simp only[if_true]at sX;subst sX;clear Qb HGt Ui PA;go_wp2_with fail;go_ret;exact⟨rfl,((((an H8).aD []).aD []).aD []).aD []⟩
   |false=>
   simp only[Bool.false_eq_true,if_false]at sX;have h8:=an H8;obtain⟨x0,x1,x2,x3,x4,x5,x6,x7,_⟩:=h8.eight (b:=D) af;clear h8;have Zm:=an HGt _ _ (an H8);have JZ:=an Ui;clear Qb HGt Ui
   cases g0 with
   |none=>
    rw[show OQ none=.tuple #[.agg #[.string ⟨#[]⟩,.int .i64 0],.bool false]from rfl]at Zm;have HG8:=aq Zm;have JO:=aq (JZ N F (an HN) (an Hpt) (an VW))
    try simp only at sX
    subst sX;clear Zm JZ PA;go_wp2_with fail;refine(an HG8).mono ?_;rintro e w9 ⟨rfl,h9⟩;obtain⟨G,hG⟩:=aa w9.heap.size;have pH:=h9.aY 100 [.string ⟨#[]⟩,.int .i64 0];rw[hG]at pH;clear h9 HG8 H8;obtain⟨y0,y1,y2,y3,y4,y5,y6,y7,_⟩:=pH.eight (b:=C) ai;obtain⟨z0,z1,z2,z3,z4,z5,z6,z7,_⟩:=pH.eight (b:=D) ag;obtain⟨t0,t1,_⟩:=pH.two (b:=(C+1)) ah;have JZ:=an JO _ _ pH;have Xc:=aq JZ;clear pH JZ JO
    go_wp2_with fail
    refine(an Xc).mono ?_;rintro e V6 ⟨rfl,zb⟩;have Gn:=aq zb;clear zb Xc;go_wp2_with fail;go_ret;exact⟨rfl,(((((an Gn).aD []).aD []).aD []).aD []).aD []⟩
   |some o=>
    rw[show OQ (some o)=.tuple #[.agg #[.string o.name,.int .i64 o.aN],.bool true]from rfl]at Zm;have HG8:=aq Zm;have Ui:=aq JZ;have Qb:=aq sX;clear Zm JZ sX;go_wp2_with fail;refine(an HG8).mono ?_;rintro e w9 ⟨rfl,h9⟩;obtain⟨G,hG⟩:=aa w9.heap.size;have pH:=h9.aY 100 [.string o.name,.int .i64 o.aN];rw[hG]at pH;obtain⟨TN,hw10⟩:=aa (w9.alloc (.cells [.string o.name,.int .i64 o.aN].toArray 100));rw[hw10]at pH;clear h9 HG8 H8;obtain⟨y0,y1,y2,y3,y4,y5,y6,y7,_⟩:=pH.eight (b:=D) ag
    obtain⟨z0,z1,z2,z3,z4,z5,z6,z7,_⟩:=pH.eight (b:=C) ai;have JP:=aq pH;clear pH;go_wp2_with fail;refine(an PA _).mono ?_;rintro e ZD ⟨rfl,hb11⟩;have tN:=(an JP).step hb11;have sX:=an Qb;clear hb11 PA JP Qb
    try simp only at sX
    cases b2 with
    |true=>
     have JO:=aq (an Ui N F (an HN) (an Hpt) (an VW));simp only[if_true]at sX;subst sX;clear Ui;obtain⟨y0,y1,y2,y3,y4,y5,y6,y7,_⟩:=tN.eight (b:=C) ai;obtain⟨z0,z1,z2,z3,z4,z5,z6,z7,_⟩:=tN.eight (b:=D) ag;obtain⟨t0,t1,_⟩:=tN.two (b:=(C+1)) ah;have JZ:=an JO _ _ tN;have Xc:=aq JZ;clear tN JZ JO;go_wp2_with fail;refine(an Xc).mono ?_;rintro e V6 ⟨rfl,zb⟩;have Gn:=aq zb;clear zb Xc;go_wp2_with fail
     go_ret;exact⟨rfl,(((((an Gn).aD []).aD []).aD []).aD []).aD []⟩
    |false=>
    simp only[Bool.false_eq_true,if_false]at sX;obtain⟨y0,y1,_⟩:=tN.two (b:=G) ae;obtain⟨z0,z1,_⟩:=tN.two (b:=(C+1)) ah;obtain⟨t0,t1,t2,t3,t4,t5,_⟩:=tN.mP (b:=nb) af
    by_cases nN:o.aN=it.aN
    ·have XY:(o.aN==it.aN)=true:=by simpa using nN
     rw[if_pos nN]at sX;subst sX;have Xh:=aq tN;clear Ui nN tN;go_wp2_with fail;go_ret;exact⟨rfl,(((((an Xh).aD []).aD []).aD []).aD []).aD []⟩
    have XY:(o.aN==it.aN)=false:=by simpa using nN
    rw[if_neg nN]at sX;have hwo:=an Hgo o rfl;have Oz:=rN w0 ZD fb mb N F ar _ tN (an HF) o.name o.aN u.aA hwo;have Qb:=aq sX;have Hwo:=aq hwo;generalize fX N F o.aN u.aA=r3 at Oz Qb;have Xb:=aq Oz;clear nN sX hwo Oz tN
    cases r3 with
    |some k=>
     have Oz:=an Xb;have sX:=an Qb
     try simp only[bH]at Oz
     try simp only at sX
     subst sX;have Xb:=aq Oz;clear Oz Ui Qb;go_wp2_with fail;refine(an Xb).mono ?_;rintro e PK ⟨rfl,pX⟩;have Xg:=aq pX;clear pX Xb;go_wp2_with fail;go_ret;exact⟨rfl,(((((an Xg).aD []).aD []).aD []).aD []).aD []⟩
    |none=>
     have Oz:=an Xb;have sX:=an Qb
     try simp only[bH]at Oz
     try simp only at sX
     subst sX;have Xb:=aq Oz;have JO:=aq (an Ui (cm N o.aN) (cD F g.tb g.az) (Nat.le_trans ((an HF).unlink o.aN (fun v hv=>(an HL v hv).1)).ix (by decide)) (by rw[show(cD F g.tb g.az).map (·.1)=F.map (·.1)from cV _ _ _];exact an Hpt) (by rw[show(cD F g.tb g.az).map (·.1)=F.map (·.1)from cV _ _ _];exact an VW));clear Oz Ui Qb;go_wp2_with fail;refine(an Xb).mono ?_;rintro e PK ⟨rfl,pX⟩;have hun:=uV w0 PK fb mb N F ar _ pX (an HN) g g.tb (an Hgb) (an VW) o.name o.aN (an Hwo) (an Y0 o.aN)
     unfold PL.val at hun;obtain⟨x0,x1,x2,x3,x4,x5,x6,x7,_⟩:=pX.eight (b:=D) ag;obtain⟨y0,y1,_⟩:=pX.two (b:=G) ae;have HUn:=aq hun;clear pX hun Xb;go_wp2_with fail;refine(an HUn).mono ?_;rintro e L3 ⟨rfl,tM⟩;clear HUn;obtain⟨y0,y1,y2,y3,y4,y5,y6,y7,_⟩:=tM.eight (b:=C) ai;obtain⟨z0,z1,z2,z3,z4,z5,z6,z7,_⟩:=tM.eight (b:=D) ag;obtain⟨t0,t1,_⟩:=tM.two (b:=(C+1)) ah;have JZ:=an JO _ _ tM
     have Xc:=aq JZ;clear tM JZ JO;go_wp2_with fail;refine(an Xc).mono ?_;rintro e V6 ⟨rfl,zb⟩;have Gn:=aq zb;clear zb Xc;go_wp2_with fail;go_ret;exact⟨rfl,(((((an Gn).aD []).aD []).aD []).aD []).aD []⟩
theorem En (hR:bF w0) (h:aJ w0 w fb mb N F ar l2) (hF:Fits N F ar) (hL:∀v∈N,0<=v.aB/\v.aB<=1000000) (s t:ByteArray) (hs:s.size<=4000000000) (ht:t.size<=4000000000):
 Calls prog 35 #[.pointer (some ⟨fb,0,none⟩),.string s,.string t] w fun e w'=>e=.returned (bH (dY N F s t).1)/\aJ w0 w' fb mb (dY N F s t).2.1 (dY N F s t).2.2 ar l2:=by
 have hg:=xO w0 w fb mb N F ar l2 hR h hF s hs;have hp:=fun(wx:World) (l:List aI) (hx:aJ w0 wx fb mb N F ar l)=>rG w0 wx fb mb N F ar l hR hx hF t ht
 have xI:Hid (∀p it,e8 N F s=.ok (p,it)->bj N F p/\0<=it.aN/\it.aN<=999):=fun p it hp=>⟨(gI hF hp).1,tY hF hp⟩
 have Hgl:Hid (∀g,dZ N F t=.ok g->bj N F g):=fun g hg=>jA hF hg
 unfold dY;generalize e8 N F s=r1 at hg xI ⊢;generalize dZ N F t=r2 at hp Hgl ⊢
 cases r1 with
 |error k=>
  unfold nH at hg;rw[show o7 (.error k)=.tuple #[.agg #[.int .i64 0,.int .i64 0,.int .i64 0,.int .i64 0,.string ⟨#[]⟩,.pointer none,.string ⟨#[]⟩,.string ⟨#[]⟩],.agg #[.string ⟨#[]⟩,.int .i64 0],.iface 88 (.int .i64 k)]from rfl]at hg;have HG:=aq hg;clear hg xI Hgl hp h hF hL hR;go_enter func35,ntmps35;go_wp2_with fail;refine(an HG).mono ?_;rintro e w2 ⟨rfl,h2⟩;have H3:=aq ((h2.aY 131 [.int .i64 0,.int .i64 0,.int .i64 0,.int .i64 0,.string ⟨#[]⟩,.pointer none,.string ⟨#[]⟩,.string ⟨#[]⟩]).aY 100 [.string ⟨#[]⟩,.int .i64 0]);clear h2 HG
  go_wp2_with fail
  go_ret;exact⟨rfl,((an H3).aD []).aD []⟩
 |ok pi=>
  obtain⟨p,it⟩:=pi;obtain⟨jc,oN,Mw⟩:=an xI p it rfl
  cases r2 with
  |error k=>
   simp only[nH,o7,PL.val]at hg;simp only[fO,gO]at hp;have HT:=aq hg;have HP:=aq hp;clear hg hp xI Hgl h hF hL hR jc;go_enter func35,ntmps35;go_wp2_with fail;refine(an HT).mono ?_;rintro e w2 ⟨rfl,h2⟩;obtain⟨C,hC⟩:=aa w2.heap.size;have h3:=(h2.aY 131 [.int .i64 p.v.id,.int .i64 p.v.aA,.int .i64 p.v.up,.int .i64 p.v.aB,.string p.v.aL,.pointer p.v.ptr,.string p.az,.string p.name]).aY 100 [.string it.name,.int .i64 it.aN];have hz:(w2.alloc (.cells [.int .i64 p.v.id,.int .i64 p.v.aA,.int .i64 p.v.up,.int .i64 p.v.aB,.string p.v.aL,.pointer p.v.ptr,.string p.az,.string p.name].toArray 131)).heap.size=C+1:=by simp[hC]
   rw[hz,hC]at h3;obtain⟨w3,hw3⟩:=aa ((w2.alloc (.cells [.int .i64 p.v.id,.int .i64 p.v.aA,.int .i64 p.v.up,.int .i64 p.v.aB,.string p.v.aL,.pointer p.v.ptr,.string p.az,.string p.name].toArray 131)).alloc (.cells [.string it.name,.int .i64 it.aN].toArray 100));rw[hw3]at h3;have hp3:=an HP w3 _ h3;have HP3:=aq hp3;clear h2 hz HT hp3 h3 HP;go_wp2_with fail;refine(an HP3).mono ?_;rintro e w4 ⟨rfl,h4⟩;have H5:=aq (h4.aY 131 [.int .i64 0,.int .i64 0,.int .i64 0,.int .i64 0,.string ⟨#[]⟩,.pointer none,.string ⟨#[]⟩,.string ⟨#[]⟩])
   clear h4 HP3;go_wp2_with fail;go_ret;exact⟨rfl,(((an H5).aD []).aD []).aD []⟩
  |ok g=>exact GW w0 w fb mb N F ar l2 hF hL s t p g it jc (an Hgl g rfl) ⟨oN,Mw⟩ hg hp
end
end Go.Proofs.YtphcnmlbieokoaaGreatDoor.T
